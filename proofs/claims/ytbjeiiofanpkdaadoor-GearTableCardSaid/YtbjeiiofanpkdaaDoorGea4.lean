/-
  Package gear and its reference: whole tables, their names.
-/
import Derived.Test.YtbjeiiofanpkdaaDoorGea3
import Derived.Test.YtbjeiiofanpkdaaDoorOTx
namespace Go.Proofs.YtbjeiiofanpkdaaDoor
open Go.RowKit Crv
attribute [local go_sem] ByteArray.mk_append_mk

theorem tab_take_succ (s : List UInt8) (k : Nat) (h : k < 256) : (gearTab s).take (k + 1) = (gearTab s).take k ++ [gearNum s k] := by
  have hl : k < (gearTab s).length := by rw [length_gearTab]; exact h
  have hg := get_gearTab s k h
  rw [List.getElem?_eq_getElem hl] at hg
  injection hg with hg
  rw [List.take_succ_eq_append_getElem hl, hg]
theorem owns_new (w : World) (e : TypeId) : Owns (w.alloc (.cells #[] e)) w.heap.size e (.slice (some ⟨w.heap.size, 0, none⟩) 0 0) [] :=
  Owns.of_mem (Mem.newAt w e [] rfl) (Nat.le_refl _) 0 0 (Nat.le_refl _) rfl (by simp [maxLen]) rfl
set_option maxHeartbeats 1000000 in
set_option maxRecDepth 100000 in
theorem refTable_any (s : List UInt8) (w : World) (hs : s.length ≤ 1000000) :
    Calls Tryd.prog 27 #[.string (str s)] w fun e w' => ∃ v, e = .returned v ∧ Owns w' w.heap.size 41 v ((gearTab s).map nV) ∧ Below w.heap.size w w' := by
  have HON := Lib.hid (fun W c => refOne_any s c W hs)
  have HO0 := Lib.hid (show Owns (w.alloc (.cells #[] 41)) w.heap.size 41 (.slice (some ⟨w.heap.size, 0, none⟩) 0 0) (((gearTab s).take 0).map nV) from owns_new w 41)
  have HB0 := Lib.hid (belowSelf w (.cells #[] 41))
  obtain ⟨ti, hi, hz, hs, hby⟩ : ∃ i, Tryd.prog.info? 41 = some i ∧ i.zero = some (.int .u64 0) ∧ i.size = 1 ∧ i.bytes = 8 := info_of (by kernel_rfl)
  have HBY : ti.bytes ≤ 64 := by omega
  have HI := Lib.hid hi
  have HZ := Lib.hid hz
  have HS := Lib.hid hs
  clear hi hz hs hby
  go_enter Tryd.func27, Tryd.ntmps27
  go_wp2_with fail
  go_loopw [3, 4] (fun v i wr => ∃ k : Nat, k ≤ 256 ∧ i = .int .i64 k ∧ Hid (Owns wr w.heap.size 41 v (((gearTab s).take k).map nV)) ∧ Hid (Below w.heap.size w wr)) (fun _ i _ => 256 - (intOf i).toNat)
  case atStart => exact ⟨0, by omega, rfl, HO0, HB0⟩
  case round =>
    obtain ⟨k, hk, rfl, HO, HB⟩ := hrel
    by_cases hlt : k < 256
    · have hd : decide ((k : Int) < 256) = true := by simp; omega
      have hw8 : IntKind.u8.wrap (k : Int) = ((UInt8.ofNat k).toNat : Int) := by
        rw [IntKind.wrap_u8', UInt8.toNat_ofNat']
        omega
      have hck : (UInt8.ofNat k).toNat = k := by rw [UInt8.toNat_ofNat']; omega
      have HON1 := Lib.hid (HON.out wr (UInt8.ofNat k))
      rw [hck] at HON1
      obtain ⟨c, hc⟩ : ∃ c, c = UInt8.ofNat k := ⟨_, rfl⟩
      rw [← hc] at hw8 HON1
      have HTK := Lib.hid (show ((gearTab s).take (k + 1)).map nV = ((gearTab s).take k).map nV ++ [nV (gearNum s k)] by rw [tab_take_succ s k hlt, List.map_append]; rfl)
      obtain ⟨x, hx⟩ : ∃ x, x = gearNum s k := ⟨_, rfl⟩
      rw [← hx] at HON1 HTK
      have HLEN := Lib.hid (show (((gearTab s).take k).map nV).length + [nV x].length ≤ 1099511627776 by rw [List.length_map, List.length_take]; simp; omega)
      have HONE := Lib.hid (show ∀ u ∈ [nV x], u.oneCell' = true by intro u hu; simp at hu; subst hu; rfl)
      clear hc hx hck
      go_wp2_with fail
      refine HON1.out.mono ?_
      rintro e w1 ⟨rfl, hb1⟩
      have HO1 := Lib.hid (HO.out.below hb1)
      have HB1 := Lib.hid (belowThen HB.out hb1)
      have hbz := HB1.out.size
      clear hb1 HO HB HON1
      go_wp2_with (first
        | (at_builtin; refine wp_append_keep (HO1.out.alloc _) w.heap.size (HB1.out.alloc hbz _) (Nat.le_refl _) [nV x] (.tmp 10) (.tmp 15) 39 ti (.int .u64 0) rfl rfl Tryd.underlying39 HI.out HZ.out HS.out HBY rfl rfl rfl (fun j u hu => cell_news_one _ _ _ j u hu) HONE.out HLEN.out (by simp; omega) ?_
           intro v3 w3 hown3 hb3 hz3 hkp3
           rw [← HTK.out] at hown3
           have HO3 := Lib.hid hown3
           have HB3 := Lib.hid hb3
           clear hown3 hz3 hkp3 hb3)
        | fail)
      refine ⟨⟨k + 1, by omega, by go_num, HO3, HB3⟩, ?_⟩
      simp [intOf]; omega
    · have e : k = 256 := by omega
      subst e
      have hd : decide ((256 : Int) < 256) = false := by simp
      rw [List.take_of_length_le (by rw [length_gearTab]; omega)] at HO
      go_wp2_with fail
      go_ret
      exact ⟨_, rfl, HO.out, HB.out⟩

theorem make_room (m : Nat) (hm : m ≤ 16777216) (w : World) : ∃ w1, (Instr.makeSlice 26 (.int .i64 0) (.int .i64 (m : Int))).run Tryd.prog w = .ok (.slice (some ⟨w.heap.size, 0, none⟩) 0 m) w1 ∧ Owns w1 w.heap.size 5 (.slice (some ⟨w.heap.size, 0, none⟩) 0 m) [] ∧ Below w.heap.size w w1 := by
  obtain ⟨i, hi, hz, hs, hb⟩ : ∃ i, Tryd.prog.info? 5 = some i ∧ i.zero = some (.int .u8 0) ∧ i.size = 1 ∧ i.bytes = 1 := info_of (by kernel_rfl)
  obtain ⟨w1, h1, h2, h3⟩ := run_makeSlice_owned (P := Tryd.prog) (w := w) w.heap.size 26 5 i (.int .u8 0) 1 Tryd.underlying26 hi hz hs .i64 .i64 m (by omega) (by rw [hb]; omega) (by simp only [maxLen]; omega) (Nat.le_refl _)
  exact ⟨w1, h1, h2, ⟨h3.os, h3.tape, h3.output, h3.size, fun k hk => h3.block k hk (by simp)⟩⟩
theorem be8_at (x j : Nat) (hj : j < 8) : (be8 x).getD j 0 = UInt8.ofNat (x / 2 ^ (56 - 8 * j)) := by
  have h : j = 0 ∨ j = 1 ∨ j = 2 ∨ j = 3 ∨ j = 4 ∨ j = 5 ∨ j = 6 ∨ j = 7 := by omega
  rcases h with rfl | rfl | rfl | rfl | rfl | rfl | rfl | rfl <;> simp [be8, be4, Nat.div_div_eq_div_mul]
theorem length_be8 (x : Nat) : (be8 x).length = 8 := rfl
/-- The bytes of numbers. -/
def numsB (l : List Nat) : List UInt8 := l.flatMap be8
theorem numsB_snoc (l : List Nat) (k : Nat) (h : k < l.length) : numsB (l.take (k + 1)) = numsB (l.take k) ++ be8 (l.getD k 0) := by
  unfold numsB
  rw [List.take_succ_eq_append_getElem h, List.flatMap_append, List.getD_eq_getElem?_getD, List.getElem?_eq_getElem h]
  simp
theorem length_numsB (l : List Nat) : (numsB l).length = 8 * l.length := by
  unfold numsB
  induction l with
  | nil => rfl
  | cons x r ih => rw [List.flatMap_cons, List.length_append, ih, length_be8, List.length_cons]; omega
theorem byte_of (x q : Nat) : IntKind.u8.wrap ((x : Int) / 2 ^ q) = ((UInt8.ofNat (x / 2 ^ q)).toNat : Int) := by
  have e : ((x : Int) / 2 ^ q) = ((x / 2 ^ q : Nat) : Int) := by simp [Int.natCast_ediv, Int.natCast_pow]
  rw [e, IntKind.wrap_u8', UInt8.toNat_ofNat']
  omega
set_option maxHeartbeats 1000000 in
set_option maxRecDepth 100000 in
theorem tabName_any (b : Nat) (t : List Nat) (w : World) (ht : Tb w b t) (hc : Consts w) :
    Calls Tryd.prog 28 #[pV b] w fun e w' => e = .returned (.string (str (textOf (sha (numsB t))))) ∧ Below w.heap.size w w' := by
  have HT := Lib.hid ht
  have HC := Lib.hid hc
  have htl : t.length = 256 := ht.2.1
  have HTL := Lib.hid htl
  obtain ⟨ti, hi, hz, hs, hby⟩ : ∃ i, Tryd.prog.info? 5 = some i ∧ i.zero = some (.int .u8 0) ∧ i.size = 1 ∧ i.bytes = 1 := info_of (by kernel_rfl)
  have HBY : ti.bytes ≤ 64 := by omega
  have HI := Lib.hid hi
  have HZ := Lib.hid hz
  have HS := Lib.hid hs
  clear hi hz hs hby ht hc htl
  obtain ⟨w0, hmk, ho0, hb0⟩ := make_room 2048 (by omega) w
  rw [show ((2048 : Nat) : Int) = 2048 from rfl] at hmk
  have HO0 := Lib.hid (show Owns w0 w.heap.size 5 (.slice (some ⟨w.heap.size, 0, none⟩) 0 2048) ((numsB (t.take 0)).map byteV) from ho0)
  have HB0 := Lib.hid hb0
  have HL := Lib.hid (show (sha (numsB t)).length = 32 from rfl)
  have HN := Lib.hid (show (numsB t).length = 2048 by rw [length_numsB, HTL.out])
  obtain ⟨d, hdd⟩ : ∃ d, d = sha (numsB t) := ⟨_, rfl⟩
  rw [← hdd] at HL ⊢
  have HDD := Lib.hid hdd
  clear hdd ho0 hb0
  go_enter Tryd.func28, Tryd.ntmps28
  go_wp2_with fail
  go_loopw [3, 9] (fun v i wr => ∃ k : Nat, k ≤ 256 ∧ i = .int .i64 k ∧ Hid (Owns wr w.heap.size 5 v ((numsB (t.take k)).map byteV)) ∧ Hid (Below w.heap.size w wr)) (fun _ i _ => 256 - (intOf i).toNat)
  case atStart => exact ⟨0, by omega, rfl, HO0, HB0⟩
  case round =>
    obtain ⟨k, hk, rfl, HO, HB⟩ := hrel
    clear HO0 HB0 hmk
    by_cases hlt : k < 256
    · have hd : decide ((k : Int) < 256) = true := by simp; omega
      have hcell : wr.cell? ⟨b, k, none⟩ = some (nV (t.getD k 0)) := by
        rw [(HT.out.1.below HB.out (HT.out.1.lt)).cell, List.getElem?_map, List.getD_eq_getElem?_getD, List.getElem?_eq_getElem (by rw [HTL.out]; exact hlt)]
        rfl
      have HTK := Lib.hid (numsB_snoc t k (by rw [HTL.out]; exact hlt))
      have HPL := Lib.hid (show (numsB (t.take k)).length = 8 * k by rw [length_numsB, List.length_take, HTL.out]; omega)
      obtain ⟨x, hx⟩ : ∃ x, x = t.getD k 0 := ⟨_, rfl⟩
      rw [← hx] at hcell HTK
      obtain ⟨pre, hpre⟩ : ∃ p, p = numsB (t.take k) := ⟨_, rfl⟩
      rw [← hpre] at HTK HPL HO
      clear hx hpre
      obtain ⟨wB, hwB⟩ : ∃ wB : World, wB = wr := ⟨_, rfl⟩
      subst hwB
      go_wp2_with fail
      go_loopw [3, 6] (fun v c w2 => ∃ j : Nat, j ≤ 8 ∧ c = .int .i64 (56 - 8 * (j : Int)) ∧ Hid (Owns w2 w.heap.size 5 v ((pre ++ (be8 x).take j).map byteV)) ∧ Hid (Below w.heap.size w w2)) (fun _ c _ => (intOf c + 8).toNat)
      case atStart => exact ⟨0, by omega, by simp, by rw [List.take_zero, List.append_nil]; exact HO, HB⟩
      case round =>
        clear HO HB
        obtain ⟨j, hj, rfl, HO, HB⟩ := hrel
        by_cases hj8 : j < 8
        · obtain ⟨q, hq⟩ : ∃ q : Nat, 56 - 8 * (j : Int) = (q : Int) := ⟨56 - 8 * j, by omega⟩
          have hq56 : q ≤ 56 := by omega
          have hby := byte_of x q
          rw [show UInt8.ofNat (x / 2 ^ q) = (be8 x).getD j 0 by rw [be8_at x j hj8, show 56 - 8 * j = q by omega]] at hby
          have HTJ := Lib.hid (show (pre ++ (be8 x).take (j + 1)).map byteV = (pre ++ (be8 x).take j).map byteV ++ [byteV ((be8 x).getD j 0)] by
            rw [List.take_succ_eq_append_getElem (by rw [length_be8]; exact hj8), List.getD_eq_getElem?_getD, List.getElem?_eq_getElem (by rw [length_be8]; exact hj8), ← List.append_assoc, List.map_append]
            rfl)
          obtain ⟨c, hc⟩ : ∃ c, c = (be8 x).getD j 0 := ⟨_, rfl⟩
          rw [← hc] at hby HTJ
          have HLEN := Lib.hid (show ((pre ++ (be8 x).take j).map byteV).length + [byteV c].length ≤ 1099511627776 by rw [List.length_map, List.length_append, HPL.out, List.length_take]; simp; omega)
          have HONE := Lib.hid (show ∀ u ∈ [byteV c], u.oneCell' = true by intro u hu; simp at hu; subst hu; rfl)
          have HJ := Lib.hid (show (q : Int) - 8 = 56 - 8 * ((j + 1 : Nat) : Int) by omega)
          have HQ := Lib.hid hq
          rw [hq]
          have hge : decide ((0 : Int) ≤ (q : Int)) = true := by simp
          have hbz := HB.out.size
          clear hc hq
          go_wp2_with (first
            | (at_builtin; refine wp_append_keep (HO.out.alloc _) w.heap.size (HB.out.alloc hbz _) (Nat.le_refl _) [byteV c] (.tmp 18) (.tmp 23) 26 ti (.int .u8 0) rfl rfl Tryd.underlying26 HI.out HZ.out HS.out HBY rfl rfl rfl (fun j u hu => cell_news_one _ _ _ j u hu) HONE.out HLEN.out (by simp; omega) ?_
               intro v3 w3 hown3 hb3 hz3 hkp3
               rw [← HTJ.out] at hown3
               have HO3 := Lib.hid hown3
               have HB3 := Lib.hid hb3
               clear hown3 hz3 hkp3 hb3)
            | fail)
          refine ⟨⟨j + 1, by omega, by rw [HJ.out], HO3, HB3⟩, ?_⟩
          simp [intOf]; omega
        · have e : j = 8 := by omega
          subst e
          rw [List.take_of_length_le (by rw [length_be8]; omega), ← HTK.out] at HO
          have hge : decide ((0 : Int) ≤ 56 - 8 * ((8 : Nat) : Int)) = false := by simp
          go_wp2_with fail
          refine ⟨⟨k + 1, by omega, by go_num, HO, HB⟩, ?_⟩
          simp [intOf]; omega
    · have e : k = 256 := by omega
      subst e
      have hd : decide ((256 : Int) < 256) = false := by simp
      rw [List.take_of_length_le (by rw [HTL.out]; omega)] at HO
      have hcv := HO.out.string (P := Tryd.prog) (src := 26) (dst := 9) Tryd.underlying26 Tryd.underlying5 Tryd.underlying9
      obtain ⟨m, hm⟩ : ∃ m, m = numsB t := ⟨_, rfl⟩
      rw [← hm] at hcv HN HDD
      have HBA := Lib.hid (belowThen HB.out (belowSelf wr (.cells ([m].map tx).toArray 9)))
      have HOF := Lib.hid (of_any _ _ [m] (HC.out.below HBA.out) (StrSlice.mk3 (w := wr) (t := 9) [m] 1) (by simp) (by simp; rw [HN.out]; omega))
      rw [show [m].flatten = m by simp, ← HDD.out] at HOF
      clear hm
      go_wp2_with fail
      refine HOF.out.mono ?_
      rintro e w1 ⟨rfl, hb1⟩
      have HB1 := Lib.hid (belowThen HBA.out hb1)
      clear hb1 HOF hcv
      go_wp2_with fail
      refine (text_any d _ HL.out).mono ?_
      rintro e w2 ⟨rfl, hb2⟩
      have HB2 := Lib.hid (belowThen HB1.out hb2)
      clear hb2
      go_wp2
      go_ret
      exact ⟨rfl, HB2.out⟩

theorem be8_two (x : Nat) : be4 (x / 4294967296) ++ be4 (x % 4294967296) = be8 x := by rw [be4_mod]; rfl
/-- A slice that reads as numbers. -/
def Nms (w : World) (v : Value) (t : List Nat) : Prop := Reads w v (t.map nV)
theorem Nms.at {w : World} {v : Value} {t : List Nat} (h : Nms w v t) : ∃ a cap, v = .slice a t.length cap ∧ ∀ i, i < t.length → ∃ b off, a = some ⟨b, off, none⟩ ∧ w.cell? ⟨b, off + i, none⟩ = some (nV (t.getD i 0)) := by
  obtain ⟨a, cap, hv, hc⟩ := h
  rw [List.length_map] at hv
  refine ⟨a, cap, hv, fun i hi => ?_⟩
  obtain ⟨b, off, ha, hcell⟩ := hc i (by rw [List.length_map]; exact hi)
  refine ⟨b, off, ha, ?_⟩
  rw [hcell, List.getElem?_map, List.getD_eq_getElem?_getD, List.getElem?_eq_getElem hi]
  rfl
set_option maxHeartbeats 1000000 in
set_option maxRecDepth 100000 in
theorem refName_any (v : Value) (t : List Nat) (w : World) (hv : Nms w v t) (htl : t.length = 256) (hlt : ∀ x ∈ t, x < 18446744073709551616) :
    Calls Tryd.prog 29 #[v] w fun e w' => e = .returned (.string (str (textOf (sha (numsB t))))) ∧ Below w.heap.size w w' := by
  have HV := Lib.hid hv
  obtain ⟨a, cap, rfl, _⟩ := hv.at
  have HTL := Lib.hid htl
  have HLT := Lib.hid hlt
  have HL := Lib.hid (show (sha (numsB t)).length = 32 from rfl)
  have HN := Lib.hid (show (numsB t).length = 2048 by rw [length_numsB, htl])
  have HRO := Lib.hid (fun W => refOf_any (numsB t) W (by rw [HN.out]; omega))
  obtain ⟨d, hdd⟩ : ∃ d, d = sha (numsB t) := ⟨_, rfl⟩
  rw [← hdd] at HL ⊢
  simp only [← hdd] at HRO
  rw [htl] at HV ⊢
  clear hdd htl hv hlt
  go_enter Tryd.func29, Tryd.ntmps29
  go_wp2_with fail
  go_loopw [3, 8] (fun o i wr => ∃ k : Nat, k ≤ 256 ∧ i = .int .i64 k ∧ o = .string (str (numsB (t.take k))) ∧ Hid (Below w.heap.size w wr)) (fun _ i _ => 256 - (intOf i).toNat)
  case atStart => exact ⟨0, by omega, rfl, rfl, Lib.hid (Below.refl _ _)⟩
  case round =>
    obtain ⟨k, hk, rfl, rfl, HB⟩ := hrel
    by_cases hlt : k < 256
    · have hd : decide ((k : Int) < 256) = true := by simp; omega
      obtain ⟨a', cap', hv', hc'⟩ := (show Nms wr (.slice a 256 cap) t from HV.out.below HB.out).at
      rw [HTL.out] at hv' hc'
      injection hv' with h1 h2 h3
      obtain ⟨b, off, ha, hcell⟩ := hc' k hlt
      rw [← h1] at ha
      subst ha
      have hx : t.getD k 0 < 18446744073709551616 := by
        rw [List.getD_eq_getElem?_getD, List.getElem?_eq_getElem (by rw [HTL.out]; exact hlt)]
        exact HLT.out _ (List.getElem_mem _)
      have HTK := Lib.hid (numsB_snoc t k (by rw [HTL.out]; exact hlt))
      have HPL := Lib.hid (show (numsB (t.take k)).length = 8 * k by rw [length_numsB, List.length_take, HTL.out]; omega)
      obtain ⟨x, hxe⟩ : ∃ x, x = t.getD k 0 := ⟨_, rfl⟩
      rw [← hxe] at hcell HTK hx
      have HR1 := Lib.hid (fun W => refBytes_any (x / 4294967296) W (by omega))
      have HR2 := Lib.hid (fun W => refBytes_any (x % 4294967296) W (by omega))
      simp only [show ((x / 4294967296 : Nat) : Int) = (x : Int) / 4294967296 by omega] at HR1
      simp only [show ((x % 4294967296 : Nat) : Int) = (x : Int) % 4294967296 by omega] at HR2
      rw [← be8_two x] at HTK
      obtain ⟨pre, hpre⟩ : ∃ p, p = numsB (t.take k) := ⟨_, rfl⟩
      rw [← hpre] at HTK HPL
      simp only [← hpre]
      clear hxe hpre h1 h2 h3 hc'
      obtain ⟨y, hy⟩ : ∃ y, y = be4 (x / 4294967296) := ⟨_, rfl⟩
      obtain ⟨z, hz⟩ : ∃ y, y = be4 (x % 4294967296) := ⟨_, rfl⟩
      simp only [← hy] at HR1 HTK
      simp only [← hz] at HR2 HTK
      have hyl : y.length = 4 := by rw [hy]; rfl
      have hzl : z.length = 4 := by rw [hz]; rfl
      have hpl := HPL.out
      clear hy hz
      go_wp2_with fail
      refine (HR1.out _).mono ?_
      rintro e w1 ⟨rfl, hb1⟩
      have HB1 := Lib.hid (belowThen HB.out hb1)
      clear hb1
      go_wp2_with fail
      refine (HR2.out _).mono ?_
      rintro e w2 ⟨rfl, hb2⟩
      have HB2 := Lib.hid (belowThen HB1.out hb2)
      clear hb2
      go_wp2_with fail
      refine ⟨⟨k + 1, by omega, by go_num, by rw [HTK.out], HB2⟩, ?_⟩
      simp [intOf]; omega
    · have e : k = 256 := by omega
      subst e
      have hd : decide ((256 : Int) < 256) = false := by simp
      rw [List.take_of_length_le (by rw [HTL.out]; omega)]
      go_wp2_with fail
      refine (HRO.out _).mono ?_
      rintro e w1 ⟨rfl, hb1⟩
      have HB1 := Lib.hid (belowThen HB.out hb1)
      clear hb1
      go_wp2_with fail
      refine (refText_any d _ HL.out).mono ?_
      rintro e w2 ⟨rfl, rfl⟩
      go_wp2
      go_ret
      exact ⟨rfl, HB1.out⟩
end Go.Proofs.YtbjeiiofanpkdaaDoor
