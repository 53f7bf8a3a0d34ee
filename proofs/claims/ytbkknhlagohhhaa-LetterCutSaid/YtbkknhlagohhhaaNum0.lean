/-
  What is encoded is decoded: Bal14's mathematics alone, for seats that lack what Bal14 walks.
-/
import Derived.Test.YtbkknhlagohhhaaBal7
namespace Go.Proofs.Ytbkknhlagohhhaa
open Go.RowKit Crv

theorem be_front : ∀ (k n : Nat), be (k + 1) n = UInt8.ofNat (n / 256 ^ k) :: be k n
  | 0, n => by simp [be]
  | k + 1, n => by
    have h := be_front k (n / 256)
    rw [be, h, Nat.div_div_eq_div_mul, List.cons_append]
    rw [show 256 * 256 ^ k = 256 ^ (k + 1) from by rw [Nat.pow_succ, Nat.mul_comm]]
    rfl
theorem lt_numLen (n i : Nat) : i < numLen n ↔ 0 < n / 256 ^ i := by
  have hp : 0 < 256 ^ i := Nat.pow_pos (by omega)
  rw [Nat.div_pos_iff, pow256]
  unfold numLen
  constructor
  · intro h
    refine ⟨Nat.pow_pos (by omega), ?_⟩
    by_cases h0 : n = 0
    · subst h0
      simp [len64] at h
    · refine Nat.le_trans ?_ (len64_ge n h0)
      exact Nat.pow_le_pow_right (by omega) (by omega)
  · rintro ⟨_, h⟩
    have := (Nat.pow_lt_pow_iff_right (by omega : 1 < 2)).1 (Nat.lt_of_le_of_lt h (len64_lt n))
    omega

theorem val_be : ∀ (k n : Nat), val (be k n) = n % 256 ^ k
  | 0, n => by simp [be, val, Nat.mod_one]
  | k + 1, n => by
    have e : 256 ^ (k + 1) = 256 * 256 ^ k := by rw [Nat.pow_succ, Nat.mul_comm]
    rw [be, val_snoc, val_be k (n / 256), UInt8.toNat_ofNat', e, Nat.mod_mul]
    omega
theorem lt_pow_numLen (n : Nat) : n < 256 ^ numLen n := by
  rw [pow256]
  refine Nat.lt_of_lt_of_le (len64_lt n) (Nat.pow_le_pow_right (by omega) ?_)
  unfold numLen
  omega
theorem numS_numOf (n : Nat) (rest : List UInt8) (hn : n < 18446744073709551616) : numS (numOf n ++ rest, 0) = ((rest, 0), n) := by
  have hk := numLen_le hn
  have e0 : bytesS (numOf n ++ rest, 0) 1 = ((be (numLen n) n ++ rest, 0), [UInt8.ofNat (numLen n)]) := by
    simp [bytesS, numOf]
    omega
  have hb : (UInt8.ofNat (numLen n)).toNat = numLen n := by rw [UInt8.toNat_ofNat']; omega
  have e1 : bytesS (be (numLen n) n ++ rest, 0) (((UInt8.ofNat (numLen n)).toNat : Nat) : Int) = ((rest, 0), be (numLen n) n) := by
    rw [hb]
    unfold bytesS
    rw [if_neg (by simp [length_be]; omega)]
    have hl := length_be (numLen n) n
    simp only [Int.toNat_natCast]
    rw [List.drop_append_of_le_length (by omega), List.take_append_of_le_length (by omega), List.drop_of_length_le (by omega), List.take_of_length_le (by omega), List.nil_append]
  unfold numS
  rw [e0]
  simp only
  rw [if_neg (by omega), e1]
  have hv := val_be (numLen n) n
  rw [Nat.mod_eq_of_lt (lt_pow_numLen n)] at hv
  cases hd : be (numLen n) n with
  | nil =>
    rw [hd] at hv
    simp [val] at hv
    simp [hv.symm]
  | cons x t =>
    rw [hd] at hv
    have hx : x ≠ 0 := by
      intro h0
      have hl : (x :: t).length = numLen n := by rw [← hd]; exact length_be _ _
      obtain ⟨j, hj⟩ : ∃ j, numLen n = j + 1 := ⟨t.length, by rw [← hl]; rfl⟩
      rw [hj, be_front] at hd
      injection hd with h1 h2
      have h3 : 0 < n / 256 ^ j := (lt_numLen n j).1 (by omega)
      have h4 : n / 256 ^ j < 256 := by
        have h6 := lt_pow_numLen n
        rw [hj] at h6
        exact Nat.div_lt_of_lt_mul (by rw [← Nat.pow_succ]; exact h6)
      rw [h0] at h1
      have h5 := congrArg UInt8.toNat h1
      rw [UInt8.toNat_ofNat'] at h5
      simp at h5
      omega
    simp only [if_neg hx, hv]
theorem intS_numOf (n : Nat) (rest : List UInt8) (top : Int) (hn : n < 9223372036854775808) (ht : (n : Int) ≤ top) : intS (numOf n ++ rest, 0) top = ((rest, 0), n) := by
  unfold intS
  rw [numS_numOf n rest (by omega)]
  simp only
  rw [if_neg (by unfold nat0; omega)]
theorem bytesS_app (s rest : List UInt8) : bytesS (s ++ rest, 0) (s.length : Int) = ((rest, 0), s) := by
  unfold bytesS
  rw [if_neg (by simp; omega)]
  simp
theorem strS_strOf (s rest : List UInt8) (top : Int) (hs : (s.length : Int) ≤ top) (hl : s.length < 1099511627776) : strS (strOf s ++ rest, 0) top = ((rest, 0), s) := by
  unfold strS strOf
  rw [List.append_assoc, intS_numOf s.length (s ++ rest) top (by omega) hs]
  exact bytesS_app s rest
end Go.Proofs.Ytbkknhlagohhhaa
