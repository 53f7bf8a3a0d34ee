/-
  The reference's Cut; the law's same and Bytes.
-/
import Derived.Test.YtbjeiiofanpkdaaDoorCut2
namespace Go.Proofs.YtbjeiiofanpkdaaDoor
open Go.RowKit Crv

theorem owns_new0 (w : World) (e : TypeId) : Owns (w.alloc (.cells #[] e)) w.heap.size e (.slice (some ⟨w.heap.size, 0, none⟩) 0 0) [] :=
  Owns.of_mem (Mem.newAt w e [] rfl) (Nat.le_refl _) 0 0 (Nat.le_refl _) rfl (by simp [maxLen]) rfl
theorem str_info : ∃ i, Tryd.prog.info? 9 = some i ∧ i.zero = some (.string ⟨#[]⟩) ∧ i.size = 1 ∧ i.bytes = 16 := info_of (by kernel_rfl)
theorem take_mid (s : List UInt8) (a n : Nat) : (s.take (a + n)).drop a = (s.drop a).take n := by
  rw [List.drop_take, Nat.add_sub_cancel_left]
set_option maxHeartbeats 1000000 in
set_option maxRecDepth 100000 in
theorem refCut_any (b : Nat) (t : List Nat) (s : List UInt8) (w : World) (ht : Tb w b t) (hs : s.length ≤ 1000000) :
    Calls Tryd.prog 40 #[.slice (some ⟨b, 0, none⟩) 256 256, .string (str s)] w fun e w' => ∃ v, e = .returned v ∧ Owns w' w.heap.size 9 v ((cuts t s).map tx) ∧ Below w.heap.size w w' := by
  have HT := Lib.hid ht
  have HO0 := Lib.hid (owns_new0 w 9)
  have HB0 := Lib.hid (belowSelf w (.cells #[] 9))
  obtain ⟨ti, hi, hz, hs1, hby⟩ := str_info
  have HBY : ti.bytes ≤ 64 := by omega
  have HI := Lib.hid hi
  have HZ := Lib.hid hz
  have HS := Lib.hid hs1
  clear hi hz hs1 hby ht
  go_enter Tryd.func40, Tryd.ntmps40
  go_wp2_with fail
  go_loopw [5, 6, 7] (fun v a i wr => ∃ (k m : Nat) (ls : List (List UInt8)), m ≤ s.length ∧ k ≤ m ∧ ls.length ≤ m ∧ a = .int .i64 m ∧ i = .int .i64 k ∧ Hid (cuts t s = ls ++ cuts t (s.drop m)) ∧ Hid (Owns wr w.heap.size 9 v (ls.map tx)) ∧ Hid (Below w.heap.size w wr)) (fun _ a _ _ => s.length - (intOf a).toNat)
  case atStart => exact ⟨0, 0, [], by omega, by omega, by simp, rfl, rfl, Lib.hid (by simp), HO0, HB0⟩
  case round =>
    obtain ⟨k, m, ls, hm, hk, hl, rfl, rfl, HC, HO, HB⟩ := hrel
    clear HO0 HB0
    have hd1 : decide ((k : Int) ≤ (s.length : Int)) = true := by simp; omega
    by_cases hlt : m < s.length
    · have hd2 : decide ((m : Int) < (s.length : Int)) = true := by simp; omega
      have hne : s.drop m ≠ [] := by
        intro e
        have := congrArg List.length e
        rw [List.length_drop] at this
        simp at this
        omega
      have HCC := Lib.hid (cuts_cons t hne)
      have hp := endOf_pos t hne
      have hle := endOf_le t (s.drop m)
      rw [List.length_drop] at hle
      have HE := Lib.hid (fun W hW => refEnd_any b t (s.drop m) W hW (by rw [List.length_drop]; omega))
      have HTK := Lib.hid (take_mid s m (endOf t (s.drop m)))
      obtain ⟨n, hn⟩ : ∃ n, n = endOf t (s.drop m) := ⟨_, rfl⟩
      simp only [← hn] at HE HCC hp hle HTK
      obtain ⟨x, hx⟩ : ∃ x, x = (s.drop m).take n := ⟨_, rfl⟩
      rw [← hx] at HCC HTK
      rw [List.drop_drop] at HCC
      have HC2 := Lib.hid (show cuts t s = (ls ++ [x]) ++ cuts t (s.drop (m + n)) by rw [HC.out, HCC.out, List.append_assoc]; rfl)
      have hsl1 := fun W => slice_str_from (P := Tryd.prog) Tryd.underlying9 s .i64 m (by omega) W
      have hsl2 : ∀ W, (Instr.slice 9 (.string (str s)) (some (.int .i64 (m : Int))) (some (.int .i64 ((m : Int) + (n : Int)))) none).run Tryd.prog W = .ok (.string (str x)) W := fun W => by
        rw [← HTK.out]
        exact slice_str_mid (P := Tryd.prog) Tryd.underlying9 s .i64 .i64 m (m + n) (by omega) (by omega) W
      have HLEN := Lib.hid (show (ls.map tx).length + [tx x].length ≤ 1099511627776 by rw [List.length_map]; simp; omega)
      have HONE := Lib.hid (show ∀ u ∈ [tx x], u.oneCell' = true by intro u hu; simp at hu; subst hu; rfl)
      have HTT := Lib.hid (HT.out.below HB.out)
      have hbz := HB.out.size
      clear hn hx HCC HC hne
      go_wp2_with fail
      refine (HE.out _ HTT.out).mono ?_
      rintro e w' ⟨rfl, rfl⟩
      clear hsl1
      go_wp2_with (first
        | (at_builtin; refine wp_append_keep (HO.out.alloc _) w.heap.size (HB.out.alloc hbz _) (Nat.le_refl _) [tx x] (.tmp 27) (.tmp 34) 53 ti (.string ⟨#[]⟩) rfl rfl Tryd.underlying53 HI.out HZ.out HS.out HBY rfl rfl rfl (fun j u hu => cell_news_one _ _ _ j u hu) HONE.out HLEN.out (by simp; omega) ?_
           intro v3 w3 hown3 hb3 hz3 hkp3
           rw [show ls.map tx ++ [tx x] = (ls ++ [x]).map tx by rw [List.map_append]; rfl] at hown3
           have HO3 := Lib.hid hown3
           have HB3 := Lib.hid hb3
           clear hown3 hz3 hkp3 hb3)
        | fail)
      refine ⟨⟨k + 1, m + n, ls ++ [x], by omega, by omega, by rw [List.length_append]; simp; omega, by go_num, by go_num, HC2, HO3, HB3⟩, ?_⟩
      simp [intOf]; omega
    · have e : m = s.length := by omega
      subst e
      have hd2 : decide ((s.length : Int) < (s.length : Int)) = false := by simp
      have hcl := HC.out
      rw [List.drop_length, cuts_nil, List.append_nil] at hcl
      have HF := Lib.hid hcl
      clear hcl
      go_wp2_with fail
      go_ret
      exact ⟨_, rfl, by rw [HF.out]; exact HO.out, HB.out⟩

set_option maxHeartbeats 1000000 in
theorem same_any (v v' : Value) (ls : List (List UInt8)) (w : World) (hv : Txs w v ls) (hv' : Txs w v' ls) (hl : ls.length ≤ 1099511627776) :
    Calls Tryd.prog 42 #[v, v'] w fun e w' => e = .returned (.bool true) ∧ Below w.heap.size w w' := by
  obtain ⟨a, cap, rfl, hc⟩ := hv
  obtain ⟨a', cap', rfl, hc'⟩ := hv'
  have HC := Lib.hid hc
  have HC' := Lib.hid hc'
  clear hc hc'
  go_enter Tryd.func42, Tryd.ntmps42
  go_wp2_with fail
  go_loopw [13] (fun i wr => ∃ (k n : Nat), k ≤ ls.length ∧ i = .int .i64 k ∧ wr = w.drewN n) (fun i _ => ls.length - (intOf i).toNat)
  case atStart => exact ⟨0, 0, by omega, rfl, rfl⟩
  case round =>
    obtain ⟨k, n, hk, rfl, rfl⟩ := hrel
    by_cases hlt : k < ls.length
    · have hd : decide ((k : Int) < (ls.length : Int)) = true := by simp; omega
      have hd2 : decide (k < ls.length) = true := by simpa using hlt
      obtain ⟨b, off, rfl, hcell⟩ := HC.out k hlt
      obtain ⟨b', off', rfl, hcell'⟩ := HC'.out k hlt
      obtain ⟨x, hx⟩ : ∃ x, x = ls.getD k [] := ⟨_, rfl⟩
      rw [← hx] at hcell hcell'
      clear hx
      go_wp2_with fail
      go_quiet (fail)
      rename_i K hK
      refine hK _ _ ?_
      go_wp2_with fail
      refine ⟨⟨k + 1, n + nq, by omega, by go_num, by simp [World.drewN]⟩, ?_⟩
      simp [intOf]; omega
    · have e : k = ls.length := by omega
      subst e
      have hd : decide ((ls.length : Int) < (ls.length : Int)) = false := by simp
      go_wp2_with fail
      go_ret
      exact ⟨rfl, below_drewN (Below.refl _ _) n⟩

theorem make_full (kl kc : IntKind) (n : Nat) (hm : n ≤ 1099511627776) (w : World) : (Instr.makeSlice 26 (.int kl n) (.int kc n)).run Tryd.prog w = .ok (.slice (some ⟨w.heap.size, 0, none⟩) n n) (w.alloc (.cells (List.replicate n (byteV 0)).toArray 5)) := by
  obtain ⟨i, hi, hz, hs, hb⟩ : ∃ i, Tryd.prog.info? 5 = some i ∧ i.zero = some (.int .u8 0) ∧ i.size = 1 ∧ i.bytes = 1 := info_of (by kernel_rfl)
  have hr := run_make (P := Tryd.prog) w 26 5 i (.int .u8 0) Tryd.underlying26 hi hz kl kc n n (by omega) (by omega) (by rw [hb]; omega) (by omega)
  simp only [Int.toNat_natCast, hs, Nat.mul_one] at hr
  have e : (madeCells (Value.int .u8 0).cells n) = (List.replicate n (byteV 0)).toArray := by
    rw [← toList_madeCells_one]; rfl
  rw [hr, e]
theorem some_byte (z : Int) : ∃ c : UInt8, IntKind.u8.wrap z = (c.toNat : Int) := by
  refine ⟨UInt8.ofNat (z % 256).toNat, ?_⟩
  rw [IntKind.wrap_u8', UInt8.toNat_ofNat']
  have h1 := Int.emod_nonneg z (show (256 : Int) ≠ 0 by omega)
  have h2 := Int.emod_lt_of_pos z (show (0 : Int) < 256 by omega)
  omega
/-- Bytes in memory, so many. -/
def ByW (w0 : World) (g m : Nat) (w : World) : Prop := ∃ x : List UInt8, x.length = m ∧ Mem w g 5 (x.map byteV) ∧ Below w0.heap.size w0 w
theorem ByW.step {w0 w : World} {g m : Nat} (h : ByW w0 g m w) (k : Nat) (z : Int) (hg : w0.heap.size ≤ g) : ByW w0 g m (w.setCell ⟨g, k, none⟩ (.int .u8 (IntKind.u8.wrap z))).drew := by
  obtain ⟨x, hx, hm, hb⟩ := h
  obtain ⟨c, hc⟩ := some_byte z
  rw [hc]
  refine ⟨x.set k c, by rw [List.length_set]; exact hx, ?_, below_drewN (belowNew hb (grown_cell (grownRefl w (some g)) k _) hg) 1⟩
  rw [List.map_set]
  exact (hm.set k (byteV c)).drew
set_option maxHeartbeats 1000000 in
set_option maxRecDepth 100000 in
theorem bytesFrom (l : List UInt8) (n : Int) (w : World) (hl : l ≠ []) :
    Calls Tryd.prog 38 #[.string (str l), .int .i64 n] w fun e w' => ∃ x : List UInt8, e = .returned (.string (str x)) ∧ x.length = (min (max n 0) 1500).toNat ∧ Below w.heap.size w w' := by
  obtain ⟨m, hm⟩ : ∃ m : Nat, min (max n 0) 1500 = (m : Int) := ⟨(min (max n 0) 1500).toNat, by omega⟩
  have hm15 : m ≤ 1500 := by omega
  have HM := Lib.hid hm
  have HMM := Lib.hid (show (min (max n 0) 1500).toNat = m by omega)
  have hpos : 0 < l.length := List.length_pos_iff.2 hl
  have hmk := make_full .i64 .i64 m (by omega) w
  have HS0 := Lib.hid (show ByW w w.heap.size m (w.alloc (.cells (List.replicate m (byteV 0)).toArray 5)) from ⟨List.replicate m 0, by simp, by rw [List.map_replicate]; exact Mem.new w _ _, belowSelf w _⟩)
  obtain ⟨W1, hW1⟩ : ∃ W, W = w.alloc (.cells (List.replicate m (byteV 0)).toArray 5) := ⟨_, rfl⟩
  rw [← hW1] at hmk HS0
  have hem : l.isEmpty = false := by rw [List.isEmpty_eq_false_iff]; exact hl
  clear hW1 hm
  go_enter Tryd.func38, Tryd.ntmps38
  go_wp2_with (first
    | (refine wp_max0 (c := n) (d := 0) (.tmp 7) (.const (.int .i64 0)) rfl rfl rfl rfl ?_)
    | (refine wp_min0 (c := max n 0) (d := 1500) (.tmp 8) (.const (.int .i64 1500)) HM.out rfl rfl rfl rfl ?_)
    | fail)
  clear hmk
  go_loopw [16] (fun i wr => ∃ k : Nat, k ≤ m ∧ i = .int .i64 k ∧ Hid (ByW w w.heap.size m wr)) (fun i _ => m - (intOf i).toNat)
  case atStart => exact ⟨0, by omega, rfl, HS0⟩
  case round =>
    obtain ⟨k, hk, rfl, HB⟩ := hrel
    clear HS0
    by_cases hlt : k < m
    · have hd : decide ((k : Int) < (m : Int)) = true := by simp; omega
      obtain ⟨x, hxl, hmem, hbel⟩ := HB.out
      have hmod : k % l.length < l.length := Nat.mod_lt _ hpos
      have hix : ∀ W, (Instr.index 9 (.string (str l)) (.int .i64 ((k : Int).tmod (l.length : Int)))).run Tryd.prog W = .ok (.int .u8 ((l.getD (k % l.length) 0).toNat : Int)) W := fun W => by
        rw [Int.tmod_eq_emod_of_nonneg (by omega), show ((k : Int) % (l.length : Int)) = ((k % l.length : Nat) : Int) by omega]
        exact run_index_str (P := Tryd.prog) 9 Tryd.underlying9 l .i64 (k % l.length) hmod W
      have hcell : ∃ u, wr.cell? ⟨w.heap.size, k, none⟩ = some u := by
        rw [hmem.cell]
        exact ⟨_, List.getElem?_eq_getElem (by rw [List.length_map, hxl]; exact hlt)⟩
      obtain ⟨u, hu⟩ := hcell
      have hfr := hmem.frozen k
      have HMEM := Lib.hid hmem
      have HXL := Lib.hid hxl
      have HBEL := Lib.hid hbel
      have hdk : decide (k < m) = true := by simpa using hlt
      clear hmem hxl hbel
      go_wp2_with fail
      go_region_held3 (fun _ => True) (trivial) (fail)
      have HB5 := Lib.hid (ByW.step HB.out k ((l[k % l.length].toNat : Int) + IntKind.u8.wrap (IntKind.i64.wrap (IntKind.i64.wrap ((k : Int) / (l.length : Int)) * 7))) (Nat.le_refl _))
      obtain ⟨W5, hW5⟩ : ∃ W, W = (wr.setCell ⟨w.heap.size, k, none⟩ (.int .u8 (IntKind.u8.wrap ((l[k % l.length].toNat : Int) + IntKind.u8.wrap (IntKind.i64.wrap (IntKind.i64.wrap ((k : Int) / (l.length : Int)) * 7)))))).drew := ⟨_, rfl⟩
      rw [← hW5] at HB5 ⊢
      clear hW5
      rename_i K hK hHe
      refine hK _ _ ?_
      clear hHe hix
      go_wp2_with fail
      refine ⟨⟨k + 1, by omega, by go_num, HB5⟩, ?_⟩
      simp [intOf]; omega
    · have e : k = m := by omega
      subst e
      have hd : decide ((k : Int) < (k : Int)) = false := by simp
      obtain ⟨x, hxl, hmem, hbel⟩ := HB.out
      have hcv := (Owns.of_mem (base := 0) hmem (Nat.zero_le _) k k (Nat.le_refl _) (by rw [List.length_map, hxl]) (by simp only [maxLen]; omega) (xs := x.map byteV) (by rw [List.take_of_length_le (by rw [List.length_map, hxl]; exact Nat.le_refl _)])).string (P := Tryd.prog) (src := 26) (dst := 9) Tryd.underlying26 Tryd.underlying5 Tryd.underlying9
      have HXL := Lib.hid hxl
      have HBEL := Lib.hid hbel
      clear hmem hxl hbel
      go_wp2_with fail
      go_ret
      exact ⟨x, rfl, by rw [HXL.out, HMM.out], HBEL.out⟩

set_option maxHeartbeats 1000000 in
set_option maxRecDepth 100000 in
theorem bytesNil (n : Int) (w : World) :
    Calls Tryd.prog 38 #[.string (str []), .int .i64 n] w fun e w' => ∃ x : List UInt8, e = .returned (.string (str x)) ∧ x.length = (min (max n 0) 1500).toNat ∧ Below w.heap.size w w' := by
  obtain ⟨m, hm⟩ : ∃ m : Nat, min (max n 0) 1500 = (m : Int) := ⟨(min (max n 0) 1500).toNat, by omega⟩
  have hm15 : m ≤ 1500 := by omega
  have HM := Lib.hid hm
  have HMM := Lib.hid (show (min (max n 0) 1500).toNat = m by omega)
  have hmk := make_full .i64 .i64 m (by omega) w
  have HS0 := Lib.hid (show ByW w w.heap.size m (w.alloc (.cells (List.replicate m (byteV 0)).toArray 5)) from ⟨List.replicate m 0, by simp, by rw [List.map_replicate]; exact Mem.new w _ _, belowSelf w _⟩)
  obtain ⟨W1, hW1⟩ : ∃ W, W = w.alloc (.cells (List.replicate m (byteV 0)).toArray 5) := ⟨_, rfl⟩
  rw [← hW1] at hmk HS0
  clear hW1 hm
  go_enter Tryd.func38, Tryd.ntmps38
  go_wp2_with (first
    | (refine wp_max0 (c := n) (d := 0) (.tmp 7) (.const (.int .i64 0)) rfl rfl rfl rfl ?_)
    | (refine wp_min0 (c := max n 0) (d := 1500) (.tmp 8) (.const (.int .i64 1500)) HM.out rfl rfl rfl rfl ?_)
    | fail)
  clear hmk
  go_loopw [16] (fun i wr => ∃ k : Nat, k ≤ m ∧ i = .int .i64 k ∧ Hid (ByW w w.heap.size m wr)) (fun i _ => m - (intOf i).toNat)
  case atStart => exact ⟨0, by omega, rfl, HS0⟩
  case round =>
    obtain ⟨k, hk, rfl, HB⟩ := hrel
    clear HS0
    by_cases hlt : k < m
    · have hd : decide ((k : Int) < (m : Int)) = true := by simp; omega
      obtain ⟨x, hxl, hmem, hbel⟩ := HB.out
      have hcell : ∃ u, wr.cell? ⟨w.heap.size, k, none⟩ = some u := by
        rw [hmem.cell]
        exact ⟨_, List.getElem?_eq_getElem (by rw [List.length_map, hxl]; exact hlt)⟩
      obtain ⟨u, hu⟩ := hcell
      have hfr := hmem.frozen k
      have HMEM := Lib.hid hmem
      have HXL := Lib.hid hxl
      have HBEL := Lib.hid hbel
      have hdk : decide (k < m) = true := by simpa using hlt
      clear hmem hxl hbel
      go_wp2_with fail
      go_region_held3 (fun _ => True) (trivial) (fail)
      rename_i K hK hHe
      refine hK _ _ ?_
      clear hHe
      go_wp2_with fail
      refine ⟨⟨k + 1, by omega, by go_num, Lib.hid (ByW.step HB.out k _ (Nat.le_refl _))⟩, ?_⟩
      simp [intOf]; omega
    · have e : k = m := by omega
      subst e
      have hd : decide ((k : Int) < (k : Int)) = false := by simp
      obtain ⟨x, hxl, hmem, hbel⟩ := HB.out
      have hcv := (Owns.of_mem (base := 0) hmem (Nat.zero_le _) k k (Nat.le_refl _) (by rw [List.length_map, hxl]) (by simp only [maxLen]; omega) (xs := x.map byteV) (by rw [List.take_of_length_le (by rw [List.length_map, hxl]; exact Nat.le_refl _)])).string (P := Tryd.prog) (src := 26) (dst := 9) Tryd.underlying26 Tryd.underlying5 Tryd.underlying9
      have HXL := Lib.hid hxl
      have HBEL := Lib.hid hbel
      clear hmem hxl hbel
      go_wp2_with fail
      go_ret
      exact ⟨x, rfl, by rw [HXL.out, HMM.out], HBEL.out⟩
theorem bytes_of (l : List UInt8) (n : Int) (w : World) :
    Calls Tryd.prog 38 #[.string (str l), .int .i64 n] w fun e w' => ∃ x : List UInt8, e = .returned (.string (str x)) ∧ x.length = (min (max n 0) 1500).toNat ∧ Below w.heap.size w w' := by
  by_cases h : l = []
  · subst h
    exact bytesNil n w
  · exact bytesFrom l n w h
end Go.Proofs.YtbjeiiofanpkdaaDoor
