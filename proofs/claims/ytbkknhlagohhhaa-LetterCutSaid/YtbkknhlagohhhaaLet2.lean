/-
  The law's Few.
-/
import Derived.Test.YtbkknhlagohhhaaLet1
namespace Go.Proofs.Ytbkknhlagohhhaa
open Go.RowKit Crv

/-- A slice's first ten. -/
def cutV : Value → Value
  | .slice a n c => .slice a (min n 10) c
  | v => v
theorem cutV_long {a : Option Addr} {n c : Nat} (h : 10 < n) : cutV (.slice a n c) = .slice a 10 c := by
  show Value.slice a (min n 10) c = _
  rw [Nat.min_eq_right (by omega)]
theorem cutV_short {a : Option Addr} {n c : Nat} (h : ¬ 10 < n) : cutV (.slice a n c) = .slice a n c := by
  show Value.slice a (min n 10) c = _
  rw [Nat.min_eq_left (by omega)]
def fewL (l : LV) : LV := { l with text := l.text.take 600, pv := cutV l.pv, hv := cutV l.hv }
theorem cutV_zs {W : World} {v : Value} {xs : List Int} (h : ZsP W v xs) : ZsP W (cutV v) (xs.take 10) := by
  obtain ⟨a, cap, rfl, hc⟩ := h
  by_cases hl : 10 < xs.length
  · rw [cutV_long hl]
    refine ⟨a, cap, by rw [List.length_take, Nat.min_eq_left (by omega)], fun i hi => ?_⟩
    rw [List.length_take] at hi
    obtain ⟨b, off, ha, hcell⟩ := hc i (by omega)
    refine ⟨b, off, ha, ?_⟩
    rw [hcell, List.getD_eq_getElem?_getD, List.getD_eq_getElem?_getD, List.getElem?_take_of_lt (by omega)]
  · rw [cutV_short hl, List.take_of_length_le (by omega)]
    exact ⟨a, cap, rfl, hc⟩
/-- A letter in a box, and another behind it. -/
theorem box_facts (l : LV) (W : World) (hid : l.id.length = 32) :
    (((W.alloc (.cells (ltC l).toArray Tlt)).alloc (.cells zA Tlt)).cell? ⟨W.heap.size, 37, none⟩ = some (tx l.text) ∧ ((W.alloc (.cells (ltC l).toArray Tlt)).alloc (.cells zA Tlt)).cell? ⟨W.heap.size, 38, none⟩ = some l.pv ∧ ((W.alloc (.cells (ltC l).toArray Tlt)).alloc (.cells zA Tlt)).cell? ⟨W.heap.size, 39, none⟩ = some l.hv) ∧
    (∀ i, ((W.alloc (.cells (ltC l).toArray Tlt)).alloc (.cells zA Tlt)).frozen? ⟨W.heap.size, i, none⟩ = false) ∧
    Mem ((W.alloc (.cells (ltC l).toArray Tlt)).alloc (.cells zA Tlt)) W.heap.size Tlt (ltC l) ∧ Mem ((W.alloc (.cells (ltC l).toArray Tlt)).alloc (.cells zA Tlt)) (W.heap.size + 1) Tlt (ltC zeroL) ∧
    Below W.heap.size W ((W.alloc (.cells (ltC l).toArray Tlt)).alloc (.cells zA Tlt)) := by
  have hM0 : Mem ((W.alloc (.cells (ltC l).toArray Tlt)).alloc (.cells zA Tlt)) W.heap.size Tlt (ltC l) := (Mem.new W Tlt (ltC l)).alloc _
  obtain ⟨-, -, h37, h38, h39⟩ := lt_cells hM0 hid
  refine ⟨⟨h37, h38, h39⟩, hM0.frozen, hM0, ?_, ((Below.refl _ _).alloc (Nat.le_refl _) _).alloc (by simp) _⟩
  rw [zero_cells]
  exact Mem.newAt _ Tlt (ltC zeroL) (by simp)
set_option maxHeartbeats 2000000 in
set_option maxRecDepth 100000 in
theorem few_any (l : LV) (W : World) (hid : l.id.length = 32) (pa : Option Addr) (pl pc : Nat) (hpv : l.pv = .slice pa pl pc) (hpc : pl ≤ pc) (ha : Option Addr) (hl hc : Nat) (hhv : l.hv = .slice ha hl hc) (hhc : hl ≤ hc) (hpm : pl ≤ 9223372036854775807) (hhm : hl ≤ 9223372036854775807) :
    Calls Try.prog 13 #[.agg (ltC l).toArray] W fun e w' => e = .returned (.agg (ltC (fewL l)).toArray) ∧ Below W.heap.size W w' := by
  have HCUT := Lib.hid (fun w => cutB l.text 600 (by omega) w)
  rw [show (600 : Int).toNat = 600 from rfl] at HCUT
  obtain ⟨⟨h37, -, -⟩, hz0, -⟩ := box_facts l W hid
  have z37 := hz0 37
  obtain ⟨t, ht⟩ : ∃ t, t = l.text.take 600 := ⟨_, rfl⟩
  obtain ⟨l1, hl1⟩ : ∃ l1 : LV, l1 = { l with text := t } := ⟨_, rfl⟩
  have hs1 := ltC_text l hid t
  have hid1 : l1.id.length = 32 := by rw [hl1]; exact hid
  have hp1 : l1.pv = .slice pa pl pc := by rw [hl1]; exact hpv
  have hh1 : l1.hv = .slice ha hl hc := by rw [hl1]; exact hhv
  rw [← hl1] at hs1
  rw [← ht] at HCUT
  clear hz0
  by_cases hp : 10 < pl
  · by_cases hh : 10 < hl
    · obtain ⟨⟨-, c38, c39⟩, hz1, hMa, hMb, hBa⟩ := box_facts l1 W hid1
      rw [hp1] at c38
      rw [hh1] at c39
      have z38 := hz1 38
      have z39 := hz1 39
      obtain ⟨l2, hl2⟩ : ∃ l2 : LV, l2 = { l1 with pv := .slice pa 10 pc } := ⟨_, rfl⟩
      have hs2 := ltC_pv l1 hid1 (.slice pa 10 pc)
      rw [← hl2] at hs2
      have hid2 : l2.id.length = 32 := by rw [hl2]; exact hid1
      have hh2 : l2.hv = .slice ha hl hc := by rw [hl2]; exact hh1
      obtain ⟨⟨-, -, d39⟩, hz2, hM2a, hM2b, hB2a⟩ := box_facts l2 W hid2
      rw [hh2] at d39
      have y39 := hz2 39
      obtain ⟨l3, hl3⟩ : ∃ l3 : LV, l3 = { l2 with hv := .slice ha 10 hc } := ⟨_, rfl⟩
      have hs3 := ltC_hv l2 hid2 (.slice ha 10 hc)
      rw [← hl3] at hs3
      have hid3 : l3.id.length = 32 := by rw [hl3]; exact hid2
      obtain ⟨-, -, hM3a, hM3b, hB3a⟩ := box_facts l3 W hid3
      have hr : l3 = fewL l := by
        unfold fewL
        rw [hl3, hl2, hl1, hpv, hhv, ht, cutV_long hp, cutV_long hh]
      have HR := Lib.hid hr
      have SZ := Lib.hid (sz_lt l3 hid3)
      have HLE := Lib.hid (show (ltC zeroL).length = (ltC l3).length by rw [length_ltC zeroL rfl, length_ltC l3 hid3])
      have ONE := Lib.hid (one_ltC l3 (by rw [hr]; show (cutV l.pv).oneCell' = true; rw [hpv]; rfl) (by rw [hr]; show (cutV l.hv).oneCell' = true; rw [hhv]; rfl))
      have HMF := Lib.hid hM3a
      have HM1 := Lib.hid hM3b
      have HBF := Lib.hid hB3a
      have dp : (10 : Int) < (pl : Int) := by omega
      have dp1 : (10 : Int) ≤ (pc : Int) := by omega
      have dp2 : 10 ≤ pc := by omega
      have dh : (10 : Int) < (hl : Int) := by omega
      have dh1 : (10 : Int) ≤ (hc : Int) := by omega
      have dh2 : 10 ≤ hc := by omega
      clear hz1 hz2  hMa hMb hBa hr ht hpv hhv hl1 hp1 hh1 hid1 hpc hhc hp hh hM2a hM2b hB2a hl2 hh2 hid2 hM3a hM3b hB3a hl3 hid3
      go_enter Try.func13, Try.ntmps13
      go_wp2_with fail
      refine (HCUT.out _).mono ?_
      rintro e w ⟨rfl, rfl⟩
      go_wp2_with (first
        | (refine wp_load_mem HMF.out Tlt (.tmp 1) _ rfl rfl rfl Try.underlying26 rfl SZ.out ?_)
        | (refine wp_store_gen (B := W.heap.size) (w0 := W) HBF.out (by omega) HM1.out (ltC l3) Tlt (.tmp 2) (.tmp 23) rfl rfl rfl rfl SZ.out HLE.out ONE.out ?_
           intro W5 hm5 hb5 _ _
           have HM5 := Lib.hid hm5
           have HB5 := Lib.hid hb5
           clear hm5 hb5)
        | fail)
      refine bodyPost_ret (results_mem HM5.out rfl _ _ rfl Try.underlying26 rfl SZ.out) rfl ⟨?_, HB5.out⟩
      rw [HR.out]
    · obtain ⟨⟨-, c38, c39⟩, hz1, hMa, hMb, hBa⟩ := box_facts l1 W hid1
      rw [hp1] at c38
      rw [hh1] at c39
      have z38 := hz1 38
      have z39 := hz1 39
      obtain ⟨l2, hl2⟩ : ∃ l2 : LV, l2 = { l1 with pv := .slice pa 10 pc } := ⟨_, rfl⟩
      have hs2 := ltC_pv l1 hid1 (.slice pa 10 pc)
      rw [← hl2] at hs2
      have hid2 : l2.id.length = 32 := by rw [hl2]; exact hid1
      have hh2 : l2.hv = .slice ha hl hc := by rw [hl2]; exact hh1
      obtain ⟨⟨-, -, d39⟩, hz2, hM2a, hM2b, hB2a⟩ := box_facts l2 W hid2
      rw [hh2] at d39
      have y39 := hz2 39
      have hr : l2 = fewL l := by
        unfold fewL
        rw [hl2, hl1, hpv, hhv, ht, cutV_long hp, cutV_short hh]
      have HR := Lib.hid hr
      have SZ := Lib.hid (sz_lt l2 hid2)
      have HLE := Lib.hid (show (ltC zeroL).length = (ltC l2).length by rw [length_ltC zeroL rfl, length_ltC l2 hid2])
      have ONE := Lib.hid (one_ltC l2 (by rw [hr]; show (cutV l.pv).oneCell' = true; rw [hpv]; rfl) (by rw [hr]; show (cutV l.hv).oneCell' = true; rw [hhv]; rfl))
      have HMF := Lib.hid hM2a
      have HM1 := Lib.hid hM2b
      have HBF := Lib.hid hB2a
      have dp : (10 : Int) < (pl : Int) := by omega
      have dp1 : (10 : Int) ≤ (pc : Int) := by omega
      have dp2 : 10 ≤ pc := by omega
      have dh : ¬ (10 : Int) < (hl : Int) := by omega
      clear hz1 hz2  hMa hMb hBa hr ht hpv hhv hl1 hp1 hh1 hid1 hpc hhc hp hh hM2a hM2b hB2a hl2 hh2 hid2
      go_enter Try.func13, Try.ntmps13
      go_wp2_with fail
      refine (HCUT.out _).mono ?_
      rintro e w ⟨rfl, rfl⟩
      go_wp2_with (first
        | (refine wp_load_mem HMF.out Tlt (.tmp 1) _ rfl rfl rfl Try.underlying26 rfl SZ.out ?_)
        | (refine wp_store_gen (B := W.heap.size) (w0 := W) HBF.out (by omega) HM1.out (ltC l2) Tlt (.tmp 2) (.tmp 23) rfl rfl rfl rfl SZ.out HLE.out ONE.out ?_
           intro W5 hm5 hb5 _ _
           have HM5 := Lib.hid hm5
           have HB5 := Lib.hid hb5
           clear hm5 hb5)
        | fail)
      refine bodyPost_ret (results_mem HM5.out rfl _ _ rfl Try.underlying26 rfl SZ.out) rfl ⟨?_, HB5.out⟩
      rw [HR.out]
  · by_cases hh : 10 < hl
    · obtain ⟨⟨-, c38, c39⟩, hz1, hMa, hMb, hBa⟩ := box_facts l1 W hid1
      rw [hp1] at c38
      rw [hh1] at c39
      have z38 := hz1 38
      have z39 := hz1 39
      obtain ⟨l3, hl3⟩ : ∃ l3 : LV, l3 = { l1 with hv := .slice ha 10 hc } := ⟨_, rfl⟩
      have hs3 := ltC_hv l1 hid1 (.slice ha 10 hc)
      rw [← hl3] at hs3
      have hid3 : l3.id.length = 32 := by rw [hl3]; exact hid1
      obtain ⟨-, -, hM3a, hM3b, hB3a⟩ := box_facts l3 W hid3
      have hr : l3 = fewL l := by
        unfold fewL
        rw [hl3, hl1, hpv, hhv, ht, cutV_short hp, cutV_long hh]
      have HR := Lib.hid hr
      have SZ := Lib.hid (sz_lt l3 hid3)
      have HLE := Lib.hid (show (ltC zeroL).length = (ltC l3).length by rw [length_ltC zeroL rfl, length_ltC l3 hid3])
      have ONE := Lib.hid (one_ltC l3 (by rw [hr]; show (cutV l.pv).oneCell' = true; rw [hpv]; rfl) (by rw [hr]; show (cutV l.hv).oneCell' = true; rw [hhv]; rfl))
      have HMF := Lib.hid hM3a
      have HM1 := Lib.hid hM3b
      have HBF := Lib.hid hB3a
      have dp : ¬ (10 : Int) < (pl : Int) := by omega
      have dh : (10 : Int) < (hl : Int) := by omega
      have dh1 : (10 : Int) ≤ (hc : Int) := by omega
      have dh2 : 10 ≤ hc := by omega
      clear hz1  hMa hMb hBa hr ht hpv hhv hl1 hp1 hh1 hid1 hpc hhc hp hh hM3a hM3b hB3a hl3 hid3
      go_enter Try.func13, Try.ntmps13
      go_wp2_with fail
      refine (HCUT.out _).mono ?_
      rintro e w ⟨rfl, rfl⟩
      go_wp2_with (first
        | (refine wp_load_mem HMF.out Tlt (.tmp 1) _ rfl rfl rfl Try.underlying26 rfl SZ.out ?_)
        | (refine wp_store_gen (B := W.heap.size) (w0 := W) HBF.out (by omega) HM1.out (ltC l3) Tlt (.tmp 2) (.tmp 23) rfl rfl rfl rfl SZ.out HLE.out ONE.out ?_
           intro W5 hm5 hb5 _ _
           have HM5 := Lib.hid hm5
           have HB5 := Lib.hid hb5
           clear hm5 hb5)
        | fail)
      refine bodyPost_ret (results_mem HM5.out rfl _ _ rfl Try.underlying26 rfl SZ.out) rfl ⟨?_, HB5.out⟩
      rw [HR.out]
    · obtain ⟨⟨-, c38, c39⟩, hz1, hMa, hMb, hBa⟩ := box_facts l1 W hid1
      rw [hp1] at c38
      rw [hh1] at c39
      have z38 := hz1 38
      have z39 := hz1 39
      have hr : l1 = fewL l := by
        unfold fewL
        rw [hl1, hpv, hhv, ht, cutV_short hp, cutV_short hh]
      have HR := Lib.hid hr
      have SZ := Lib.hid (sz_lt l1 hid1)
      have HLE := Lib.hid (show (ltC zeroL).length = (ltC l1).length by rw [length_ltC zeroL rfl, length_ltC l1 hid1])
      have ONE := Lib.hid (one_ltC l1 (by rw [hr]; show (cutV l.pv).oneCell' = true; rw [hpv]; rfl) (by rw [hr]; show (cutV l.hv).oneCell' = true; rw [hhv]; rfl))
      have HMF := Lib.hid hMa
      have HM1 := Lib.hid hMb
      have HBF := Lib.hid hBa
      have dp : ¬ (10 : Int) < (pl : Int) := by omega
      have dh : ¬ (10 : Int) < (hl : Int) := by omega
      clear hz1  hMa hMb hBa hr ht hpv hhv hl1 hp1 hh1 hid1 hpc hhc hp hh
      go_enter Try.func13, Try.ntmps13
      go_wp2_with fail
      refine (HCUT.out _).mono ?_
      rintro e w ⟨rfl, rfl⟩
      go_wp2_with (first
        | (refine wp_load_mem HMF.out Tlt (.tmp 1) _ rfl rfl rfl Try.underlying26 rfl SZ.out ?_)
        | (refine wp_store_gen (B := W.heap.size) (w0 := W) HBF.out (by omega) HM1.out (ltC l1) Tlt (.tmp 2) (.tmp 23) rfl rfl rfl rfl SZ.out HLE.out ONE.out ?_
           intro W5 hm5 hb5 _ _
           have HM5 := Lib.hid hm5
           have HB5 := Lib.hid hb5
           clear hm5 hb5)
        | fail)
      refine bodyPost_ret (results_mem HM5.out rfl _ _ rfl Try.underlying26 rfl SZ.out) rfl ⟨?_, HB5.out⟩
      rw [HR.out]
end Go.Proofs.Ytbkknhlagohhhaa
