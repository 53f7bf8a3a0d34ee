/-
  GearMasks: the walk.
-/
import Derived.Test.YtbjeiiofanpkdaaDoorGea3
namespace Go.Proofs.YtbjeiiofanpkdaaDoor
open Go.RowKit Crv

theorem bit_and (m k : Nat) (hm : m < 18446744073709551616) : bits .and .u64 ((m : Int) / 2 ^ k) 1 = ((m / 2 ^ k % 2 : Nat) : Int) := by
  have e : ((m : Int) / 2 ^ k) = ((m / 2 ^ k : Nat) : Int) := by simp [Int.natCast_ediv, Int.natCast_pow]
  have h : m / 2 ^ k ≤ m := Nat.div_le_self _ _
  rw [e, show (1 : Int) = ((1 : Nat) : Int) from rfl, u64_and_nat _ _ (by omega) (by omega), nat_mask1]
theorem low_bits {m : Nat} (hm : m < 18446744073709551616) (h : m % 65536 = 0) : bits .and .u64 (m : Int) 65535 = 0 := by
  rw [show (65535 : Int) = ((65535 : Nat) : Int) from rfl, u64_and_nat _ _ hm (by omega), show 65535 = 2 ^ 16 - 1 from rfl, Nat.and_two_pow_sub_one_eq_mod, show (2 : Nat) ^ 16 = 65536 from rfl, h]
  rfl
theorem not_bits {a b : Nat} (ha : a < 18446744073709551616) (hb : b < 18446744073709551616) (h : a &&& b = a) : bits .andNot .u64 (a : Int) (b : Int) = 0 := by
  rw [u64_andNot_nat _ _ ha hb]
  have e : a &&& (18446744073709551615 - b) = 0 := by
    apply Nat.eq_of_testBit_eq
    intro i
    have h2 := congrArg (fun x => x.testBit i) h
    simp only [Nat.testBit_and, Nat.zero_testBit] at h2 ⊢
    rw [show 18446744073709551615 - b = 2 ^ 64 - (b + 1) by omega, Nat.testBit_two_pow_sub_succ (by omega)]
    revert h2
    cases a.testBit i <;> cases b.testBit i <;> simp
  rw [e]
  rfl
theorem clamp_min (n k : Int) : clampM (min n k) ≤ clampM n := by unfold clampM; omega
set_option maxHeartbeats 1000000 in
set_option maxRecDepth 100000 in
theorem gearMasks_walk (n k : Int) (w : World) (hc : Consts w) :
    Calls Tryd.prog 8 #[.int .i64 n, .int .i64 k] w fun e w' => e = .returned (.bool true) ∧ Below w.heap.size w w' := by
  have HA := Lib.hid (awake7_any w hc)
  have HM := Lib.hid (fun W => mask_any n W)
  have HRM := Lib.hid (fun W => refMask_any n W)
  have hl48 := clampM_le n
  have HON := Lib.hid (ones_mask ⟨clampM n, by omega⟩)
  have hml := mask_lt hl48
  have HLO := Lib.hid (low_bits hml (low_mask ⟨clampM n, by omega⟩))
  have HSUB := Lib.hid (fun j => not_bits (mask_lt (Nat.le_trans (clamp_min n j) hl48)) hml (sub_mask ⟨clampM n, by omega⟩ ⟨clampM (min n j), by have := clamp_min n j; omega⟩ (clamp_min n j)))
  have hcl : ((clampM n : Nat) : Int) = min (max n 0) 48 := by unfold clampM; omega
  dsimp only at HON
  obtain ⟨m, hm⟩ : ∃ m, m = maskOf (clampM n) := ⟨_, rfl⟩
  simp only [← hm] at HM HRM HON HLO HSUB hml
  obtain ⟨c, hcc⟩ : ∃ c, c = clampM n := ⟨_, rfl⟩
  rw [← hcc] at HON hl48 hcl
  have HCL := Lib.hid hcl
  clear hm hcc hc hcl
  go_enter Tryd.func8, Tryd.ntmps8
  go_wp2_with fail
  refine HA.out.mono ?_
  rintro e w1 ⟨rfl, hb1⟩
  have HB1 := Lib.hid hb1
  clear hb1
  go_wp2_with fail
  refine (HM.out _).mono ?_
  rintro e w' ⟨rfl, rfl⟩
  go_wp2_with fail
  go_loopw [6, 7] (fun b i wr => ∃ j : Nat, j ≤ 64 ∧ i = .int .i64 j ∧ b = .int .i64 (onesTo m j : Nat) ∧ onesTo m j ≤ j ∧ w1 = wr) (fun _ i _ => 64 - (intOf i).toNat)
  case atStart => exact ⟨0, by omega, rfl, rfl, by simp [onesTo], rfl⟩
  case round =>
    obtain ⟨j, hj, rfl, rfl, hle, rfl⟩ := hrel
    by_cases hlt : j < 64
    · have hd : decide ((j : Int) < 64) = true := by simp; omega
      have hand := bit_and m j hml
      have HS := Lib.hid (show onesTo m (j + 1) = onesTo m j + m / 2 ^ j % 2 from rfl)
      obtain ⟨z, hz⟩ : ∃ z, z = m / 2 ^ j % 2 := ⟨_, rfl⟩
      have hz2 : z < 2 := by omega
      rw [← hz] at hand HS
      obtain ⟨o, ho⟩ : ∃ o, o = onesTo m j := ⟨_, rfl⟩
      rw [← ho] at HS hle
      simp only [← ho]
      clear hz ho
      by_cases hz1 : z = 1
      · subst hz1
        go_wp2
        refine ⟨⟨j + 1, by omega, by go_num, by rw [HS.out]; go_num, by rw [HS.out]; omega, trivial⟩, ?_⟩
        simp [intOf]; omega
      · have hz0 : z = 0 := by omega
        subst hz0
        go_wp2
        refine ⟨⟨j + 1, by omega, by go_num, by rw [HS.out]; go_num, by rw [HS.out]; omega, trivial⟩, ?_⟩
        simp [intOf]; omega
    · have e : j = 64 := by omega
      subst e
      have hd : decide ((64 : Int) < 64) = false := by simp
      rw [HON.out]
      go_wp2_with fail
      refine (HRM.out _).mono ?_
      rintro e w' ⟨rfl, rfl⟩
      have hlo := HLO.out
      have hcl := HCL.out
      by_cases hnk : n ≤ k
      · have HF := Lib.hid (fun W => mask_any n W)
        have hsb := HSUB.out k
        rw [show min n k = n by omega] at hsb
        rcases (show (n ≤ 0 ∧ c = 0) ∨ (0 < n ∧ n ≤ 48 ∧ n = (c : Int)) ∨ (48 < n ∧ c = 48) by omega) with ⟨h0, rfl⟩ | ⟨h0, h1, rfl⟩ | ⟨h0, rfl⟩
        · have h1 : n ≤ 48 := by omega
          clear hcl
          go_wp2_with fail
          refine (HF.out _).mono ?_
          rintro e w' ⟨rfl, rfl⟩
          go_wp2
          go_ret
          exact ⟨rfl, HB1.out⟩
        · clear hcl
          go_wp2_with fail
          refine (HF.out _).mono ?_
          rintro e w' ⟨rfl, rfl⟩
          go_wp2
          go_ret
          exact ⟨rfl, HB1.out⟩
        · clear hcl
          go_wp2_with fail
          refine (HF.out _).mono ?_
          rintro e w' ⟨rfl, rfl⟩
          go_wp2
          go_ret
          exact ⟨rfl, HB1.out⟩
      · have HF := Lib.hid (fun W => mask_any k W)
        have hsb := HSUB.out k
        rw [show min n k = k by omega] at hsb
        rcases (show (n ≤ 0 ∧ c = 0) ∨ (0 < n ∧ n ≤ 48 ∧ n = (c : Int)) ∨ (48 < n ∧ c = 48) by omega) with ⟨h0, rfl⟩ | ⟨h0, h1, rfl⟩ | ⟨h0, rfl⟩
        · have h1 : n ≤ 48 := by omega
          clear hcl
          go_wp2_with fail
          refine (HF.out _).mono ?_
          rintro e w' ⟨rfl, rfl⟩
          go_wp2
          go_ret
          exact ⟨rfl, HB1.out⟩
        · clear hcl
          go_wp2_with fail
          refine (HF.out _).mono ?_
          rintro e w' ⟨rfl, rfl⟩
          go_wp2
          go_ret
          exact ⟨rfl, HB1.out⟩
        · clear hcl
          go_wp2_with fail
          refine (HF.out _).mono ?_
          rintro e w' ⟨rfl, rfl⟩
          go_wp2
          go_ret
          exact ⟨rfl, HB1.out⟩
end Go.Proofs.YtbjeiiofanpkdaaDoor
