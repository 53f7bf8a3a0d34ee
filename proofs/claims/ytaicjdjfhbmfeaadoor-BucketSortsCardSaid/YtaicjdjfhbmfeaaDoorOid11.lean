/-
  The reference of layer 2: Bit, Shared.
-/
import Derived.Test.YtaicjdjfhbmfeaaDoorOid10
namespace Go.Proofs.YtaicjdjfhbmfeaaDoor
open Go.RowKit Crv

/-- A name's i-th bit, from the first on. -/
def bitOf (s : List UInt8) (i : Nat) : Nat := (s.getD (i / 8) 0).toNat / 2 ^ (7 - i % 8) % 2

set_option maxHeartbeats 1000000 in
theorem bit_any (s : List UInt8) (i : Nat) (w : World) (hs : s.length = 32) (hi : i < 256) :
    Calls Tryd.prog 113 #[.string (str s), .int .i64 (i : Int)] w fun e w' => e = .returned (.int .i64 (bitOf s i : Int)) ∧ w = w' := by
  obtain ⟨b, hb⟩ : ∃ b, b = s.getD (i / 8) 0 := ⟨_, rfl⟩
  have hix : ∀ W, (Instr.index 9 (.string (str s)) (.int .i64 ((i : Int) / 8))).run Tryd.prog W = .ok (.int .u8 (b.toNat : Int)) W := fun W => by
    rw [show ((i : Int) / 8) = ((i / 8 : Nat) : Int) from by omega, hb]
    exact run_index_str 9 Tryd.underlying9 s .i64 (i / 8) (by omega) W
  have hbl := b.toNat_lt
  have HB := Lib.hid (show bitOf s i = b.toNat / 2 ^ (7 - i % 8) % 2 by rw [hb]; rfl)
  obtain ⟨r, hr⟩ : ∃ r, r = i % 8 := ⟨_, rfl⟩
  have hr8 : r < 8 := by omega
  have hrm : (i : Int) % 8 = (r : Int) := by omega
  rw [← hr] at HB
  clear hb hs hr
  go_enter Tryd.func113, Tryd.ntmps113
  go_wp2_with fail
  go_loop [5, 6] (fun c k => ∃ j : Nat, j ≤ 7 - r ∧ k = .int .i64 j ∧ c = .int .i64 ((b.toNat / 2 ^ j : Nat) : Int)) (fun _ k => 8 - (intOf k).toNat)
  case atStart => exact ⟨0, by omega, rfl, by simp⟩
  case round =>
    obtain ⟨j, hj, rfl, rfl⟩ := hrel
    have hdl : b.toNat / 2 ^ j ≤ 255 := Nat.le_trans (Nat.div_le_self _ _) (by omega)
    have HH := Lib.hid (show b.toNat / 2 ^ j / 2 = b.toNat / 2 ^ (j + 1) by rw [Nat.div_div_eq_div_mul, ← Nat.pow_succ])
    obtain ⟨q, hq⟩ : ∃ q, q = b.toNat / 2 ^ j := ⟨_, rfl⟩
    have HQ := Lib.hid hq
    rw [← hq] at HH hdl ⊢
    clear hq
    by_cases hlt : j < 7 - r
    · have hd : decide ((j : Int) < 7 - (r : Int)) = true := by simp; omega
      have hlt' : (j : Int) < 7 - (r : Int) := by omega
      go_wp2_with fail
      go_round
      case rel => exact ⟨j + 1, by omega, by go_num, by rw [← HH.out]; go_num⟩
      case measure => simp [intOf]; omega
    · have hd : decide ((j : Int) < 7 - (r : Int)) = false := by simp; omega
      have hlt' : ¬ ((j : Int) < 7 - (r : Int)) := by omega
      have ej : j = 7 - r := by omega
      have HF := Lib.hid (show bitOf s i = q % 2 by rw [HB.out, ← ej, HQ.out])
      clear ej
      go_wp2_with fail
      go_ret
      exact ⟨by rw [HF.out]; rfl, rfl⟩

theorem bitOf_test (s : List UInt8) (i : Nat) : bitOf s i = ((s.getD (i / 8) 0).toNat.testBit (7 - i % 8)).toNat := by
  unfold bitOf
  rw [Nat.testBit_eq_decide_div_mod_eq]
  have h := Nat.mod_two_eq_zero_or_one ((s.getD (i / 8) 0).toNat / 2 ^ (7 - i % 8))
  rcases h with h | h <;> rw [h] <;> rfl
/-- The first bit that is set in a byte. -/
theorem first_bit : ∀ c : UInt8, c ≠ 0 → 8 - len8 c < 8 ∧ c.toNat.testBit (7 - (8 - len8 c)) = true ∧ ∀ j, j < 8 - len8 c → c.toNat.testBit (7 - j) = false := by
  refine forall_u8 ?_
  decide +kernel
theorem bit_differ (s t : List UInt8) (k j : Nat) (hj : j < 8) : (bitOf s (8 * k + j) = bitOf t (8 * k + j)) ↔ ((s.getD k 0 ^^^ t.getD k 0).toNat.testBit (7 - j) = false) := by
  rw [bitOf_test, bitOf_test, show (8 * k + j) / 8 = k from by omega, show (8 * k + j) % 8 = j from by omega, UInt8.toNat_xor, Nat.testBit_xor]
  cases (s.getD k 0).toNat.testBit (7 - j) <;> cases (t.getD k 0).toNat.testBit (7 - j) <;> simp
theorem shared_le (s t : List UInt8) : sharedOf s t ≤ 256 := by
  unfold sharedOf
  split
  · rename_i i h
    have h2 := List.mem_of_find?_eq_some h
    have h3 : i < 32 := by simpa using h2
    have := len8_le (s.getD i 0 ^^^ t.getD i 0)
    omega
  · exact Nat.le_refl _
/-- What the length of the common prefix is. -/
theorem shared_spec (s t : List UInt8) : (∀ i, i < sharedOf s t → bitOf s i = bitOf t i) ∧ (sharedOf s t < 256 → bitOf s (sharedOf s t) ≠ bitOf t (sharedOf s t)) := by
  have same : ∀ k, s.getD k 0 = t.getD k 0 → ∀ j, j < 8 → bitOf s (8 * k + j) = bitOf t (8 * k + j) := fun k h j hj => by
    rw [bit_differ s t k j hj, h]
    simp
  by_cases hall : ∀ j, j < 32 → s.getD j 0 = t.getD j 0
  · rw [sharedOf_all s t hall]
    refine ⟨fun i hi => ?_, fun h => absurd h (by omega)⟩
    have := same (i / 8) (hall _ (by omega)) (i % 8) (by omega)
    rwa [show 8 * (i / 8) + i % 8 = i from by omega] at this
  · obtain ⟨k, hk, hne, hlow⟩ : ∃ k, k < 32 ∧ s.getD k 0 ≠ t.getD k 0 ∧ ∀ j, j < k → s.getD j 0 = t.getD j 0 := by
      have : ∃ k, k < 32 ∧ s.getD k 0 ≠ t.getD k 0 := by
        apply Classical.byContradiction
        intro hno
        exact hall fun j hj => Classical.byContradiction fun h => hno ⟨j, hj, h⟩
      obtain ⟨k, hk⟩ := this
      induction k using Nat.strongRecOn with
      | ind k ih =>
        by_cases h : ∀ j, j < k → s.getD j 0 = t.getD j 0
        · exact ⟨k, hk.1, hk.2, h⟩
        · have : ∃ j, j < k ∧ s.getD j 0 ≠ t.getD j 0 := by
            apply Classical.byContradiction
            intro hno
            exact h fun j hj => Classical.byContradiction fun h' => hno ⟨j, hj, h'⟩
          obtain ⟨j, hj, hjn⟩ := this
          exact ih j hj ⟨by omega, hjn⟩
    rw [sharedOf_at s t k hk hlow hne]
    have hc : s.getD k 0 ^^^ t.getD k 0 ≠ 0 := fun h => hne (UInt8.xor_eq_zero_iff.1 h)
    obtain ⟨f1, f2, f3⟩ := first_bit _ hc
    refine ⟨fun i hi => ?_, fun _ => ?_⟩
    · by_cases hik : i < 8 * k
      · have := same (i / 8) (hlow _ (by omega)) (i % 8) (by omega)
        rwa [show 8 * (i / 8) + i % 8 = i from by omega] at this
      · have h2 := (bit_differ s t k (i - 8 * k) (by omega)).2 (f3 _ (by omega))
        rwa [show 8 * k + (i - 8 * k) = i from by omega] at h2
    · intro h
      have h2 := (bit_differ s t k _ f1).1 h
      rw [f2] at h2
      cases h2

set_option maxHeartbeats 1000000 in
theorem refShared_any (s t : List UInt8) (w : World) (hs : s.length = 32) (ht : t.length = 32) :
    Calls Tryd.prog 87 #[.string (str s), .string (str t)] w fun e w' => e = .returned (.int .i64 (sharedOf s t : Int)) ∧ w = w' := by
  have HS := Lib.hid hs
  have HT := Lib.hid ht
  have HSP := Lib.hid (shared_spec s t)
  have hle := shared_le s t
  obtain ⟨n, hn⟩ : ∃ n, n = sharedOf s t := ⟨_, rfl⟩
  rw [← hn] at HSP hle ⊢
  clear hs ht hn
  go_enter Tryd.func87, Tryd.ntmps87
  go_wp2_with fail
  go_loop [5] (fun i => ∃ k : Nat, k ≤ n ∧ i = .int .i64 k) (fun i => 256 - (intOf i).toNat)
  case atStart => exact ⟨0, by omega, rfl⟩
  case round =>
    obtain ⟨k, hk, rfl⟩ := hrel
    by_cases h256 : k < 256
    · have hd : decide ((k : Int) < 256) = true := by simp; omega
      have h256' : (k : Int) < 256 := by omega
      by_cases hlt : k < n
      · have hsame := HSP.out.1 k hlt
        go_wp2_with fail
        refine (bit_any s k _ HS.out h256).mono ?_
        rintro e w' ⟨rfl, rfl⟩
        go_wp2_with fail
        refine (bit_any t k _ HT.out h256).mono ?_
        rintro e w' ⟨rfl, rfl⟩
        clear hsame
        go_wp2_with fail
        go_round
        case rel => exact ⟨k + 1, by omega, by go_num⟩
        case measure => simp [intOf]; omega
      · have ek : k = n := by omega
        subst ek
        have hdiff := HSP.out.2 h256
        have hne : ((bitOf s k : Int) != (bitOf t k : Int)) = true := by
          simp
          omega
        clear hdiff
        go_wp2_with fail
        refine (bit_any s k _ HS.out h256).mono ?_
        rintro e w' ⟨rfl, rfl⟩
        go_wp2_with fail
        refine (bit_any t k _ HT.out h256).mono ?_
        rintro e w' ⟨rfl, rfl⟩
        obtain ⟨p, hp⟩ : ∃ p, p = bitOf s k := ⟨_, rfl⟩
        obtain ⟨q, hq⟩ : ∃ q, q = bitOf t k := ⟨_, rfl⟩
        rw [← hp, ← hq] at hne ⊢
        clear hp hq
        go_wp2_with fail
        go_ret
        exact ⟨rfl, rfl⟩
    · have ek : k = n := by omega
      subst ek
      have e256 : k = 256 := by omega
      subst e256
      go_wp2_with fail
      go_ret
      exact ⟨rfl, rfl⟩

/-- What the reference says of which is nearer. -/
def closerOf (g x y : List UInt8) : Bool := decide (sharedOf x y < 256) && decide (bitOf g (sharedOf x y) = bitOf x (sharedOf x y))
end Go.Proofs.YtaicjdjfhbmfeaaDoor
