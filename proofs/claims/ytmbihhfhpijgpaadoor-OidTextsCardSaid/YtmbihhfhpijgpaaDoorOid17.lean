/-
  Package oid: Parse.
-/
import Derived.Test.YtmbihhfhpijgpaaDoorOid16
namespace Go.Proofs.YtmbihhfhpijgpaaDoor
open Go.RowKit Crv

def partTo (s : List UInt8) (n : Nat) : List UInt8 := (parseOf s).take n ++ List.replicate (32 - n) 0
theorem partTo_zero (s : List UInt8) : (partTo s 0).map byteV = List.replicate 32 (byteV 0) := by simp [partTo]
theorem partTo_all (s : List UInt8) : partTo s 32 = parseOf s := by
  unfold partTo
  rw [List.take_of_length_le (by rw [length_parseOf]; exact Nat.le_refl _)]
  simp
theorem partTo_get (s : List UInt8) (n : Nat) (h : n < 32) : (partTo s n)[n]? = some 0 := by
  unfold partTo
  rw [List.getElem?_append_right (by rw [List.length_take, length_parseOf]; omega), List.length_take, length_parseOf, Nat.min_eq_left (by omega), Nat.sub_self, List.getElem?_replicate, if_pos (by omega)]
theorem partTo_set (s : List UInt8) (n : Nat) (h : n < 32) : ((partTo s n).map byteV).set n (byteV (byteAt s n)) = (partTo s (n + 1)).map byteV := by
  rw [← List.map_set]
  congr 1
  unfold partTo
  have hl := length_parseOf s
  rw [List.set_append_right _ _ (by rw [List.length_take, hl]; omega), List.length_take, hl, Nat.min_eq_left (by omega), Nat.sub_self, show 32 - n = (32 - (n + 1)) + 1 from by omega, List.replicate_succ, List.set_cons_zero, List.take_add_one, List.getElem?_eq_getElem (by omega)]
  simp [parseOf]
theorem or_low5 (h b : Nat) (hb : b < 32) : bits .or .u32 ((h : Int) * 32 % 4294967296) (b : Int) = (((h * 32 + b) % 4294967296 : Nat) : Int) := by
  have e : ((h : Int) * 32 % 4294967296) = ((h % 134217728 * 32 : Nat) : Int) := by omega
  have h1 := Nat.shiftLeft_add_eq_or_of_lt (i := 5) (b := b) hb (h % 134217728)
  rw [Nat.shiftLeft_eq] at h1
  rw [e, u32_or_nat _ _ (by omega) (by omega), ← h1]
  congr 1
  omega
theorem and_15 (n : Nat) (hn : n < 4294967296) : bits .and .u32 (n : Int) 15 = ((n % 16 : Nat) : Int) := by
  rw [show (15 : Int) = ((15 : Nat) : Int) from rfl, u32_and_nat _ _ hn (by omega), show (15 : Nat) = 2 ^ 4 - 1 from rfl, Nat.and_two_pow_sub_one_eq_mod]
theorem mod_byte (V j : Nat) (hj : j ≤ 8) : V % 4294967296 / 2 ^ j % 256 = V / 2 ^ j % 256 := by
  have e : (4294967296 : Nat) = 2 ^ j * 2 ^ (32 - j) := by rw [← Nat.pow_add, show j + (32 - j) = 32 from by omega]
  rw [e, Nat.mod_mul_right_div_self]
  have e2 : (2 : Nat) ^ (32 - j) = 256 * 2 ^ (24 - j) := by rw [show (256 : Nat) = 2 ^ 8 from rfl, ← Nat.pow_add, show 8 + (24 - j) = 32 - j from by omega]
  rw [e2, Nat.mod_mul_right_mod]
theorem byte_at (s : List UInt8) (hs : s.length = 52) (i n q : Nat) (hi : i ≤ 52) (h : 5 * i = 8 * (n + 1) + q) (hq : q < 8) : v32 (s.take i) % 4294967296 / 2 ^ q % 256 = (byteAt s n).toNat := by
  rw [mod_byte _ _ (by omega), v32_at s hs i q hi, byteAt_nat, show 260 - 5 * i + q = 252 - 8 * n from by omega]

instance (s : List UInt8) : Decidable (Fits s) := by unfold Fits; infer_instance
def saidOf (s : List UInt8) : Value := if Fits s then .tuple #[.agg ((parseOf s).map byteV).toArray, .int .i64 0] else .tuple #[.agg (List.replicate 32 (byteV 0)).toArray, .int .i64 2]
theorem saidOf_yes (s : List UInt8) (h : Fits s) : saidOf s = .tuple #[.agg ((parseOf s).map byteV).toArray, .int .i64 0] := if_pos h
theorem saidOf_no (s : List UInt8) (h : ¬ Fits s) : saidOf s = .tuple #[.agg (List.replicate 32 (byteV 0)).toArray, .int .i64 2] := if_neg h

set_option maxHeartbeats 2000000 in
set_option maxRecDepth 100000 in
theorem parse_any (s : List UInt8) (w : World) :
    Calls Tryd.prog 31 #[.string (str s)] w fun e w' => e = .returned (saidOf s) ∧ Below w.heap.size w w' := by
  have z32 : (List.replicate 32 (0 : UInt8)).map byteV = List.replicate 32 (byteV 0) := by simp
  have SZ := Lib.hid (sz_id (List.replicate 32 0) (by simp))
  rw [z32] at SZ
  have ONE := Lib.hid (one_bytes (List.replicate 32 0))
  rw [z32] at ONE
  clear z32
  by_cases hl : s.length = 52
  · have hd : ((s.length : Int) != 52) = false := by simp; omega
    have hl' : (s.length : Int) = 52 := by omega
    have HL := Lib.hid hl
    clear hl
    go_enter Tryd.func31, Tryd.ntmps31
    go_wp2_with fail
    go_loopw [5, 6, 7, 16] (fun nx h c iV wr => ∃ (i n d : Nat), i ≤ 52 ∧ 5 * i = 8 * n + d ∧ d < 8 ∧ iV = .int .i64 i ∧ nx = .int .i64 n ∧ c = .int .i64 d ∧ h = .int .u32 ((v32 (s.take i) % 4294967296 : Nat) : Int) ∧ Hid ((∀ b ∈ s.take i, 0 ≤ place b) ∧ Mem wr w.heap.size TI (List.replicate 32 (byteV 0)) ∧ Mem wr (w.heap.size + 1) TI ((partTo s n).map byteV)) ∧ Below w.heap.size w wr) (fun _ _ _ i _ => 52 - (intOf i).toNat)
    case atStart =>
      refine ⟨0, 0, 0, by omega, by omega, by omega, rfl, rfl, rfl, rfl, Lib.hid ⟨by simp, ?_, ?_⟩, ((Below.refl _ _).alloc (Nat.le_refl _) _).alloc (by simp) _⟩
      · exact (Mem.newAt w TI (List.replicate 32 (byteV 0)) rfl).alloc _
      · rw [partTo_zero]; exact Mem.newAt _ TI (List.replicate 32 (byteV 0)) (by simp)
    case round =>
      obtain ⟨i, n, d, hi, hind, hd8, rfl, rfl, rfl, rfl, HM, hb⟩ := hrel
      have hhl : v32 (s.take i) % 4294967296 < 4294967296 := Nat.mod_lt _ (by omega)
      by_cases hlt : i < 52
      · obtain ⟨b, hbd⟩ : ∃ b, b = s.getD i 0 := ⟨_, rfl⟩
        have hix : ∀ W, (Instr.index 9 (.string (str s)) (.int .i64 (i : Int))).run Tryd.prog W = .ok (.int .u8 (b.toNat : Int)) W := fun W => by rw [hbd]; exact run_index_str 9 Tryd.underlying9 s .i64 i (by rw [HL.out]; exact hlt) W
        have hdk : decide ((i : Int) < 52) = true := by simp; omega
        have hkl : (i : Int) < 52 := by omega
        have hbm : b ∈ s := by rw [hbd, List.getD_eq_getElem?_getD, List.getElem?_eq_getElem (by rw [HL.out]; exact hlt)]; exact List.getElem_mem _
        have HTK := Lib.hid (show s.take (i + 1) = s.take i ++ [b] by rw [List.take_succ_eq_append_getElem (by rw [HL.out]; exact hlt), hbd, List.getD_eq_getElem?_getD, List.getElem?_eq_getElem (by rw [HL.out]; exact hlt)]; rfl)
        have HBM := Lib.hid hbm
        have HCALL := Lib.hid (strings_IndexByte b wr)
        have hbl := b.toNat_lt
        obtain ⟨h, hh⟩ : ∃ h, h = v32 (s.take i) % 4294967296 := ⟨_, rfl⟩
        have HH := Lib.hid hh
        rw [← hh] at hhl ⊢
        clear hbd hh hbm
        by_cases hp : place b < 0
        · have HNO := Lib.hid (saidOf_no s (fun h => by have := h.2.1 b HBM.out; omega))
          obtain ⟨p, hpp⟩ : ∃ p, p = place b := ⟨_, rfl⟩
          rw [← hpp] at HCALL hp
          clear hpp
          have hdp : decide (p < 0) = true := by simp; omega
          go_wp2_with fail
          refine HCALL.out.mono ?_
          rintro e w' ⟨rfl, rfl⟩
          go_wp2_with (first
            | (refine wp_store_mem HM.out.2.1 (List.replicate 32 (byteV 0)) TI (.tmp 2) (.tmp 25) rfl rfl rfl rfl SZ.out rfl ONE.out ?_)
            | fail)
          rw [HNO.out]
          exact bodyPost_ret (results_mem2 (HM.out.2.1.setRow _) rfl _ (.array 32 5) rfl Tryd.underlying39 rfl SZ.out) rfl ⟨rfl, below_row hb (Nat.le_refl _) _⟩
        · have hpd := place_dig b (by omega)
          have hgl := dig_lt b
          have HG := Lib.hid (show ∀ c ∈ s.take (i + 1), 0 ≤ place c by
            rw [HTK.out]
            intro c hc
            rcases List.mem_append.1 hc with h1 | h1
            · exact HM.out.1 c h1
            · simp at h1; subst h1; omega)
          have HV := Lib.hid (show (h * 32 + dig b) % 4294967296 = v32 (s.take (i + 1)) % 4294967296 by rw [HTK.out, v32_snoc, HH.out]; omega)
          obtain ⟨g, hg⟩ : ∃ g, g = dig b := ⟨_, rfl⟩
          rw [hpd, ← hg] at HCALL
          rw [← hg] at hgl HV
          clear hg hpd hp
          have hor := or_low5 h g hgl
          rw [HV.out] at hor
          obtain ⟨h2, hh2⟩ : ∃ h2, h2 = v32 (s.take (i + 1)) % 4294967296 := ⟨_, rfl⟩
          have hh2l : h2 < 4294967296 := by rw [hh2]; exact Nat.mod_lt _ (by omega)
          have HH2 := Lib.hid hh2
          rw [← hh2] at hor
          clear hh2 HV
          have hdp : decide ((g : Int) < 0) = false := by simp
          by_cases h8 : 8 ≤ d + 5
          · obtain ⟨q, hq⟩ : ∃ q, d + 5 = q + 8 := ⟨d - 3, by omega⟩
            have hdq : (d : Int) = (q : Int) + 3 := by omega
            have hn32 : n < 32 := by omega
            have HB := Lib.hid (byte_at s HL.out (i + 1) n q (by omega) (by omega) (by omega))
            rw [← HH2.out] at HB
            have HSET := Lib.hid (partTo_set s n hn32)
            have c0 : wr.cell? ⟨w.heap.size + 1, n, none⟩ = some (.int .u8 0) := by
              rw [HM.out.2.2.cell, List.getElem?_map, partTo_get s n hn32]; rfl
            have f0 := HM.out.2.2.frozen n
            have hd3 : decide ((8 : Int) ≤ (q : Int) + 3 + 5) = true := by simp; omega
            have hq7 : q ≤ 7 := by omega
            have hnl : (n : Int) < 32 := by omega
            rw [hdq]
            go_wp2_with fail
            refine HCALL.out.mono ?_
            rintro e w' ⟨rfl, rfl⟩
            go_wp2_with fail
            have hby : (Value.int .u8 ((h2 : Int) / 2 ^ q % 256)) = byteV (byteAt s n) := by
              unfold byteV
              rw [← HB.out]
              simp [Int.natCast_ediv, Int.natCast_pow]
            rw [hby]
            refine ⟨⟨i + 1, n + 1, q, by omega, by omega, by omega, by go_num, by go_num, by congr 1; omega, by rw [HH2.out], Lib.hid ⟨HG.out, HM.out.2.1.other (by simp) _, ?_⟩, hb.setCell (by simp) _⟩, by simp [intOf]; omega⟩
            rw [← HSET.out]
            exact HM.out.2.2.set n _
          · have hd3 : decide ((8 : Int) ≤ (d : Int) + 5) = false := by simp; omega
            have hd3' : ¬ ((8 : Int) ≤ (d : Int) + 5) := by omega
            go_wp2_with fail
            refine HCALL.out.mono ?_
            rintro e w' ⟨rfl, rfl⟩
            go_wp2_with fail
            refine ⟨⟨i + 1, n, d + 5, by omega, by omega, by omega, by go_num, by go_num, by go_num, by rw [HH2.out], Lib.hid ⟨HG.out, HM.out.2⟩, hb⟩, by simp [intOf]; omega⟩
      · have e : i = 52 := by omega
        subst e
        have en : n = 32 := by omega
        subst en
        rw [List.take_of_length_le (by rw [HL.out]; exact Nat.le_refl _)] at HM hhl ⊢
        rw [partTo_all] at HM
        have hand := and_15 (v32 s % 4294967296) hhl
        have hm16 : v32 s % 4294967296 % 16 = v32 s % 16 := by omega
        rw [hm16] at hand
        have HM0 := Lib.hid HM.out.2.1
        have HM1 := Lib.hid HM.out.2.2
        by_cases hf : v32 s % 16 = 0
        · have HYES := Lib.hid (saidOf_yes s ⟨HL.out, HM.out.1, hf⟩)
          rw [hf] at hand
          obtain ⟨h, hh⟩ : ∃ h, h = v32 s % 4294967296 := ⟨_, rfl⟩
          have SZ2 := Lib.hid (sz_id (parseOf s) (length_parseOf s))
          have HZ2 := Lib.hid (show (List.replicate 32 (byteV 0)).length = ((parseOf s).map byteV).length by rw [List.length_map, length_parseOf]; rfl)
          have ONE2 := Lib.hid (one_bytes (parseOf s))
          obtain ⟨x, hx⟩ : ∃ x, x = parseOf s := ⟨_, rfl⟩
          rw [← hx] at HM1 HYES SZ2 HZ2 ONE2
          rw [← hh] at hand hhl ⊢
          clear hh hx hm16 HM hf
          go_wp2_with (first
            | (refine wp_load_mem HM1.out TI (.tmp 4) (.array 32 5) rfl rfl rfl Tryd.underlying39 rfl SZ2.out ?_)
            | (refine wp_store_mem HM0.out (x.map byteV) TI (.tmp 2) (.tmp 50) rfl rfl rfl rfl SZ2.out HZ2.out ONE2.out ?_)
            | fail)
          rw [HYES.out]
          exact bodyPost_ret (results_mem2 (HM0.out.setRow _) rfl _ (.array 32 5) rfl Tryd.underlying39 rfl SZ2.out) rfl ⟨rfl, below_row hb (Nat.le_refl _) _⟩
        · have HNO := Lib.hid (saidOf_no s (fun h => hf h.2.2))
          obtain ⟨h, hh⟩ : ∃ h, h = v32 s % 4294967296 := ⟨_, rfl⟩
          obtain ⟨r, hr⟩ : ∃ r, r = v32 s % 16 := ⟨_, rfl⟩
          rw [← hh] at hand hhl ⊢
          rw [← hr] at hand hf
          have hne : ((r : Int) != 0) = true := by simp; omega
          clear hh hr hm16 HM
          go_wp2_with (first
            | (refine wp_store_mem HM0.out (List.replicate 32 (byteV 0)) TI (.tmp 2) (.tmp 49) rfl rfl rfl rfl SZ.out rfl ONE.out ?_)
            | fail)
          rw [HNO.out]
          exact bodyPost_ret (results_mem2 (HM0.out.setRow _) rfl _ (.array 32 5) rfl Tryd.underlying39 rfl SZ.out) rfl ⟨rfl, below_row hb (Nat.le_refl _) _⟩
  · have hd : ((s.length : Int) != 52) = true := by simp; omega
    have HNO := Lib.hid (saidOf_no s (fun h => hl h.1))
    have HM0 := Lib.hid (Mem.newAt w TI (List.replicate 32 (byteV 0)) rfl)
    have hb1 : Below w.heap.size w (w.alloc (.cells (List.replicate 32 (byteV 0)).toArray TI)) := (Below.refl _ _).alloc (Nat.le_refl _) _
    clear hl
    go_enter Tryd.func31, Tryd.ntmps31
    go_wp2_with (first
      | (refine wp_store_mem HM0.out (List.replicate 32 (byteV 0)) TI (.tmp 2) (.tmp 13) rfl rfl rfl rfl SZ.out rfl ONE.out ?_)
      | fail)
    rw [HNO.out]
    exact bodyPost_ret (results_mem2 (HM0.out.setRow _) rfl _ (.array 32 5) rfl Tryd.underlying39 rfl SZ.out) rfl ⟨rfl, below_row hb1 (Nat.le_refl _) _⟩
end Go.Proofs.YtmbihhfhpijgpaaDoor
