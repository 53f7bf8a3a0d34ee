/-
  Package cutter and its reference: where a chunk ends.
-/
import Derived.Test.YtbjeiiofanpkdaaDoorGea3
import Derived.Test.YtbjeiiofanpkdaaDoorCut0
namespace Go.Proofs.YtbjeiiofanpkdaaDoor
open Go.RowKit Crv

theorem clampM_eight : clampM 8 = 8 := by decide
theorem clampM_five : clampM 5 = 5 := by decide
theorem mask_small {v : Nat} (m : Nat) (hv : v < 18446744073709551616) : v &&& m < 18446744073709551616 := Nat.lt_of_le_of_lt Nat.and_le_left hv
theorem zero_any (v m : Nat) (b : Bool) (w : World) (hv : v < 18446744073709551616) (hm : m < 18446744073709551616) (hb : decide (v &&& m = 0) = b) :
    Calls Tryd.prog 77 #[nV v, nV m] w fun e w' => e = .returned (.bool b) ∧ w = w' := by
  have hand := u64_and_nat v m hv hm
  obtain ⟨x, hx⟩ : ∃ x, x = v &&& m := ⟨_, rfl⟩
  rw [← hx] at hand hb
  clear hx
  cases b with
  | true =>
    have hx0 : x = 0 := by simpa using hb
    subst hx0
    clear hb
    go_enter Tryd.func77, Tryd.ntmps77
    go_wp2
    go_ret
    exact ⟨rfl, rfl⟩
  | false =>
    have hx0 : ¬ x = 0 := by simpa using hb
    have hd : ((x : Int) == 0) = false := by simp; omega
    clear hb
    go_enter Tryd.func77, Tryd.ntmps77
    go_wp2
    go_ret
    exact ⟨rfl, rfl⟩
/-- What is asked of the number of bytes. -/
theorem endsB_mid {n v : Nat} (h : 96 ≤ n) (h2 : n < 256) : endsB n v = decide (v &&& maskOf 5 = 0) := by
  unfold endsB
  rw [decide_eq_false (by omega), if_pos h]
  rfl
theorem endsB_low {n v : Nat} (h : 32 ≤ n) (h2 : n < 96) : endsB n v = decide (v &&& maskOf 8 = 0) := by
  unfold endsB
  rw [decide_eq_false (by omega), if_neg (by omega), decide_eq_true h]
  rfl
set_option maxHeartbeats 1000000 in
theorem ends_any (n v : Nat) (b : Bool) (w : World) (hv : v < 18446744073709551616) (hb : endsB n v = b) :
    Calls Tryd.prog 78 #[.int .i64 n, nV v] w fun e w' => e = .returned (.bool b) ∧ w = w' := by
  have HM5 := Lib.hid (fun W => mask_any 5 W)
  have HM8 := Lib.hid (fun W => mask_any 8 W)
  rw [clampM_five] at HM5
  rw [clampM_eight] at HM8
  have hand5 := u64_and_nat v (maskOf 5) hv (mask_lt (by omega))
  have hand8 := u64_and_nat v (maskOf 8) hv (mask_lt (by omega))
  by_cases h1 : 256 ≤ n
  · rw [endsB_long h1] at hb
    subst hb
    have d1 : decide ((256 : Int) ≤ (n : Int)) = true := by simp; omega
    go_enter Tryd.func78, Tryd.ntmps78
    go_wp2
    go_ret
    exact ⟨rfl, rfl⟩
  · have d1 : decide ((256 : Int) ≤ (n : Int)) = false := by simp; omega
    by_cases h2 : 96 ≤ n
    · have d2 : decide ((96 : Int) ≤ (n : Int)) = true := by simp; omega
      rw [endsB_mid h2 (by omega)] at hb
      obtain ⟨m, hm⟩ : ∃ m, m = maskOf 5 := ⟨_, rfl⟩
      simp only [← hm] at HM5 hand5 hb
      obtain ⟨x, hx⟩ : ∃ x, x = v &&& m := ⟨_, rfl⟩
      rw [← hx] at hand5 hb
      clear hm hx hand8 HM8
      cases b with
      | true =>
        have hx0 : x = 0 := by simpa using hb
        subst hx0
        clear hb
        go_enter Tryd.func78, Tryd.ntmps78
        go_wp2_with fail
        refine (HM5.out _).mono ?_
        rintro e w' ⟨rfl, rfl⟩
        go_wp2
        go_ret
        exact ⟨rfl, rfl⟩
      | false =>
        have hx0 : ¬ x = 0 := by simpa using hb
        have hd : ((x : Int) == 0) = false := by simp; omega
        clear hb
        go_enter Tryd.func78, Tryd.ntmps78
        go_wp2_with fail
        refine (HM5.out _).mono ?_
        rintro e w' ⟨rfl, rfl⟩
        go_wp2
        go_ret
        exact ⟨rfl, rfl⟩
    · have d2 : decide ((96 : Int) ≤ (n : Int)) = false := by simp; omega
      by_cases h3 : 32 ≤ n
      · have d3 : decide ((32 : Int) ≤ (n : Int)) = true := by simp; omega
        rw [endsB_low h3 (by omega)] at hb
        obtain ⟨m, hm⟩ : ∃ m, m = maskOf 8 := ⟨_, rfl⟩
        simp only [← hm] at HM8 hand8 hb
        obtain ⟨x, hx⟩ : ∃ x, x = v &&& m := ⟨_, rfl⟩
        rw [← hx] at hand8 hb
        clear hm hx hand5 HM5
        cases b with
        | true =>
          have hx0 : x = 0 := by simpa using hb
          subst hx0
          clear hb
          go_enter Tryd.func78, Tryd.ntmps78
          go_wp2_with fail
          refine (HM8.out _).mono ?_
          rintro e w' ⟨rfl, rfl⟩
          go_wp2
          go_ret
          exact ⟨rfl, rfl⟩
        | false =>
          have hx0 : ¬ x = 0 := by simpa using hb
          have hd : ((x : Int) == 0) = false := by simp; omega
          clear hb
          go_enter Tryd.func78, Tryd.ntmps78
          go_wp2_with fail
          refine (HM8.out _).mono ?_
          rintro e w' ⟨rfl, rfl⟩
          go_wp2
          go_ret
          exact ⟨rfl, rfl⟩
      · have d3 : decide ((32 : Int) ≤ (n : Int)) = false := by simp; omega
        rw [endsB_short (by omega)] at hb
        subst hb
        clear hand5 hand8
        go_enter Tryd.func78, Tryd.ntmps78
        go_wp2
        go_ret
        exact ⟨rfl, rfl⟩

/-- A cutter in memory: its roll, the bytes that it holds. -/
def Cu (w : World) (cb rb : Nat) (hv : Value) : Prop := Mem w cb 98 [pV rb, hv]
theorem Cu.below {w w' : World} {cb rb : Nat} {hv : Value} (h : Cu w cb rb hv) (hb : Below w.heap.size w w') : Cu w' cb rb hv := Mem.below h hb (Mem.lt h)
theorem Cu.ne {w : World} {cb rb b v n r2 : Nat} {hv : Value} (h : Cu w cb rb hv) (hr : Rl w r2 b v n) : cb ≠ r2 := fun e => by
  subst e
  unfold Cu Mem at h
  unfold Rl Mem at hr
  rw [h] at hr
  injection hr with hr
  injection hr with _ hr
  exact absurd hr (by decide)
theorem Cu.grown {w w' : World} {cb rb g : Nat} {hv : Value} (h : Cu w cb rb hv) (hg : w.grownBy w' (some g)) (hne : cb ≠ g) : Cu w' cb rb hv := Mem.grown h hg (fun e => hne (by injection e))
theorem ret2 {a b c d : Value} (h1 : a = c) (h2 : b = d) : Ending.returned (.tuple #[a, b]) = .returned (.tuple #[c, d]) := by rw [h1, h2]
theorem adv_some {t : List Nat} {v n : Nat} {p : List UInt8} {i : Nat} (h : firstStop t v n p = some i) : advK t v n p = i + 1 := by unfold advK; rw [h]
theorem adv_none {t : List Nat} {v n : Nat} {p : List UInt8} (h : firstStop t v n p = none) : advK t v n p = p.length := by unfold advK; rw [h]
/-- What lies there while a part is gone through. -/
def AdvW (w0 : World) (cb rb tb : Nat) (hv : Value) (t : List Nat) (v n : Nat) (w : World) : Prop := Tb w tb t ∧ Rl w rb tb v n ∧ Cu w cb rb hv ∧ w0.grownBy w (some rb)
theorem AdvW.step {w0 w w' : World} {cb rb tb v n v' n' : Nat} {hv : Value} {t : List Nat} (h : AdvW w0 cb rb tb hv t v n w) (hr : Rl w' rb tb v' n') (hg : w.grownBy w' (some rb)) : AdvW w0 cb rb tb hv t v' n' w' :=
  ⟨h.1.grown hg (h.1.ne h.2.1), hr, h.2.2.1.grown hg (h.2.2.1.ne h.2.1), grown_trans h.2.2.2 hg⟩
set_option maxHeartbeats 1000000 in
set_option maxRecDepth 100000 in
theorem advance_any (cb rb tb v n : Nat) (hv : Value) (t : List Nat) (p : List UInt8) (w : World) (ht : Tb w tb t) (hr : Rl w rb tb v n) (hc : Cu w cb rb hv) (hvl : v < 18446744073709551616) (hn : n ≤ 1099511627776) (hp : p.length ≤ 1099511627776) :
    Calls Tryd.prog 66 #[pV cb, .string (str p)] w fun e w' => e = .returned (.tuple #[.int .i64 (advK t v n p : Nat), .bool (advD t v n p)]) ∧ AdvW w cb rb tb hv t (advV t v n p) (advC t v n p) w' := by
  have HS := Lib.hid (show AdvW w cb rb tb hv t (rollFrom t v (p.take 0)) (n + 0) w from ⟨ht, hr, hc, grownRefl _ _⟩)
  clear ht hr hc
  go_enter Tryd.func66, Tryd.ntmps66
  go_wp2_with fail
  go_loopw [10] (fun i wr => ∃ k : Nat, k ≤ p.length ∧ i = .int .i64 k ∧ Hid (∀ j, j < k → stops t v n p j = false) ∧ Hid (AdvW w cb rb tb hv t (rollFrom t v (p.take k)) (n + k) wr)) (fun i _ => p.length - (intOf i).toNat)
  case atStart => exact ⟨0, by omega, rfl, Lib.hid (fun j hj => by omega), HS⟩
  case round =>
    obtain ⟨k, hk, rfl, HNO, HR⟩ := hrel
    clear HS
    by_cases hlt : k < p.length
    · have hd : decide ((k : Int) < (p.length : Int)) = true := by simp; omega
      have HST := Lib.hid (show rollFrom t v (p.take (k + 1)) = roll t (rollFrom t v (p.take k)) (p.getD k 0) by
        rw [List.take_succ_eq_append_getElem hlt, rollFrom_append, List.getD_eq_getElem?_getD, List.getElem?_eq_getElem hlt]
        rfl)
      obtain ⟨c, hcc⟩ : ∃ c, c = p.getD k 0 := ⟨_, rfl⟩
      rw [← hcc] at HST
      have hix := fun W => run_index_str (P := Tryd.prog) 9 Tryd.underlying9 p .i64 k hlt W
      rw [← hcc] at hix
      have hcb : wr.cell? ⟨cb, 0, none⟩ = some (pV rb) := Mem.cell HR.out.2.2.1 0
      have HN := Lib.hid (next_any rb tb (rollFrom t v (p.take k)) (n + k) c t wr.drew HR.out.1 HR.out.2.1 (by omega))
      rw [← HST.out] at HN
      have hxl := rollFrom_lt t (p.take (k + 1)) v hvl
      have HSP := Lib.hid (show stops t v n p k = endsB (n + k + 1) (rollFrom t v (p.take (k + 1))) from rfl)
      obtain ⟨x, hx⟩ : ∃ x, x = rollFrom t v (p.take (k + 1)) := ⟨_, rfl⟩
      rw [← hx] at HN hxl HSP
      have HX := Lib.hid hx
      clear hcc hx HST
      go_wp2_with fail
      refine wp_region_still_tail 7 (by kernel_rfl) (by kernel_rfl) ?_
      simp only [List.take_succ_cons, List.take_zero, List.drop_succ_cons, List.drop_zero]
      repeat still_step
      refine wpStill_nil ?_
      change wpList _ _ _ _ _ wr.drew
      go_wp2_with fail
      refine HN.out.mono ?_
      rintro e w4 ⟨rfl, hr4, hg4⟩
      have HR4 := Lib.hid (AdvW.step HR.out hr4 (grown_trans (grown_drew (grownRefl wr (some rb))) hg4))
      have hcb4 : w4.cell? ⟨cb, 0, none⟩ = some (pV rb) := Mem.cell HR4.out.2.2.1 0
      have HCO := Lib.hid (count_any rb tb x (n + k + 1) w4 hr4)
      have HRS := Lib.hid (reset_any rb tb x (n + k + 1) w4 hr4)
      obtain ⟨b, hb⟩ : ∃ b, stops t v n p k = b := ⟨_, rfl⟩
      have HE := Lib.hid (fun W => ends_any (n + k + 1) x b W hxl (by rw [← HSP.out]; exact hb))
      have HBB := Lib.hid hb
      clear hr4 hg4 HN hix hb hcb
      go_wp2_with fail
      refine HCO.out.mono ?_
      rintro e w' ⟨rfl, rfl⟩
      go_wp2_with fail
      refine (HE.out _).mono ?_
      rintro e w' ⟨rfl, rfl⟩
      cases b with
      | true =>
        go_wp2_with fail
        refine HRS.out.mono ?_
        rintro e w5 ⟨rfl, hr5, hg5⟩
        have HR5 := Lib.hid (AdvW.step HR4.out hr5 hg5)
        have HF := Lib.hid (firstStop_some hlt HBB.out HNO.out)
        clear hr5 hg5
        go_wp2
        go_ret2
        refine ⟨ret2 ?_ ?_, ?_⟩
        · rw [adv_some HF.out]
          go_num
        · unfold advD
          rw [HF.out]
          rfl
        · unfold advV advC
          rw [HF.out]
          exact HR5.out
      | false =>
        go_wp2_with fail
        refine ⟨⟨k + 1, by omega, by go_num, Lib.hid (fun j hj => ?_), by rw [← HX.out]; exact HR4⟩, ?_⟩
        · rcases Nat.lt_or_ge j k with h | h
          · exact HNO.out j h
          · have e : j = k := by omega
            subst e
            exact HBB.out
        · simp [intOf]; omega
    · have e : k = p.length := by omega
      subst e
      rw [List.take_length] at HR
      have hd : decide ((p.length : Int) < (p.length : Int)) = false := by simp
      have HF := Lib.hid (firstStop_none HNO.out)
      go_wp2
      go_ret2
      refine ⟨ret2 ?_ ?_, ?_⟩
      · rw [adv_none HF.out]
        rfl
      · unfold advD
        rw [HF.out]
        rfl
      · unfold advV advC
        rw [HF.out]
        exact HR.out
end Go.Proofs.YtbjeiiofanpkdaaDoor
