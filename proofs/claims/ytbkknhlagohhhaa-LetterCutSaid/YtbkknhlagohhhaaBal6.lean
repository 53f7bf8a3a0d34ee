/-
  Numbers: what is encoded is decoded, and a number has one encoding.
-/
import Derived.Test.YtbkknhlagohhhaaBal5
namespace Go.Proofs.Ytbkknhlagohhhaa
open Go.RowKit Crv

theorem be_val_rev : ∀ d : List UInt8, be d.length (val d.reverse) = d.reverse
  | [] => rfl
  | b :: r => by
    have h := be_val_rev r
    have hb := b.toNat_lt
    rw [List.length_cons, List.reverse_cons, val_snoc, be]
    have e1 : (val r.reverse * 256 + b.toNat) / 256 = val r.reverse := by omega
    have e2 : UInt8.ofNat (val r.reverse * 256 + b.toNat) = b := by
      apply UInt8.toNat_inj.1
      rw [UInt8.toNat_ofNat']
      omega
    rw [e1, e2, h]
theorem be_val (d : List UInt8) : be d.length (val d) = d := by
  have := be_val_rev d.reverse
  rwa [List.reverse_reverse, List.length_reverse] at this
theorem foldl_ge : ∀ (r : List UInt8) (a : Nat), a * 256 ^ r.length ≤ r.foldl (fun a b => a * 256 + b.toNat) a
  | [], a => by simp
  | b :: r, a => by
    have h := foldl_ge r (a * 256 + b.toNat)
    rw [List.foldl_cons, List.length_cons, Nat.pow_succ]
    refine Nat.le_trans ?_ h
    rw [Nat.mul_comm (256 ^ r.length) 256, ← Nat.mul_assoc]
    exact Nat.mul_le_mul_right _ (by omega)
theorem val_ge (x : UInt8) (r : List UInt8) (hx : x ≠ 0) : 256 ^ r.length ≤ val (x :: r) := by
  have h : 1 ≤ x.toNat := by
    have : x.toNat ≠ 0 := fun e => hx (UInt8.toNat_inj.1 (by simpa using e))
    omega
  have h2 := foldl_ge r (0 * 256 + x.toNat)
  unfold val
  rw [List.foldl_cons]
  refine Nat.le_trans ?_ h2
  have := Nat.mul_le_mul_right (256 ^ r.length) (show 1 ≤ 0 * 256 + x.toNat by omega)
  omega
theorem pow256 (k : Nat) : (256 : Nat) ^ k = 2 ^ (8 * k) := by rw [show (256 : Nat) = 2 ^ 8 from rfl, ← Nat.pow_mul]
theorem numLen_unique (n k : Nat) (h1 : 256 ^ k ≤ n) (h2 : n < 256 ^ (k + 1)) : numLen n = k + 1 := by
  rw [pow256] at h1 h2
  have a := len64_le h2
  have b := (Nat.pow_lt_pow_iff_right (by omega : 1 < 2)).1 (Nat.lt_of_le_of_lt h1 (len64_lt n))
  unfold numLen
  omega
theorem numLen_val (x : UInt8) (r : List UInt8) (hx : x ≠ 0) : numLen (val (x :: r)) = (x :: r).length := by
  have h := val_lt (x :: r)
  exact numLen_unique _ _ (val_ge x r hx) h
theorem numOf_val (x : UInt8) (r : List UInt8) (hx : x ≠ 0) : numOf (val (x :: r)) = UInt8.ofNat (x :: r).length :: (x :: r) := by
  unfold numOf
  rw [numLen_val x r hx, be_val]
theorem numOf_zero : numOf 0 = [0] := rfl

theorem numS_err (l : List UInt8) (h : (numS (l, 0)).1.2 ≠ 0) : (numS (l, 0)).2 = 0 ∧ (numS (l, 0)).1.1 = [] := by
  revert h
  unfold numS
  cases l with
  | nil => simp [bytesS, failS]
  | cons b r =>
    have e1 : bytesS (b :: r, 0) 1 = ((r, 0), [b]) := by simp [bytesS]; omega
    rw [e1]
    simp only
    by_cases h8 : 8 < b.toNat
    · simp [h8, failS]
    · rw [if_neg h8]
      by_cases hlen : r.length < b.toNat
      · have e2 : bytesS (r, 0) (b.toNat : Int) = (([], 1), []) := by unfold bytesS; rw [if_pos (.inr (by simp; omega))]; simp [failS]
        rw [e2]
        simp
      · have e2 : bytesS (r, 0) (b.toNat : Int) = ((r.drop b.toNat, 0), r.take b.toNat) := by unfold bytesS; rw [if_neg (by simp; omega)]; simp
        rw [e2]
        cases ht : r.take b.toNat with
        | nil => simp
        | cons x t =>
          simp only
          by_cases hx : x = 0
          · simp [hx, failS]
          · simp [hx]
theorem numS_ok (l : List UInt8) (h : (numS (l, 0)).1.2 = 0) : numOf (numS (l, 0)).2 ++ (numS (l, 0)).1.1 = l := by
  revert h
  unfold numS
  cases l with
  | nil => simp [bytesS, failS]
  | cons b r =>
    have e1 : bytesS (b :: r, 0) 1 = ((r, 0), [b]) := by simp [bytesS]; omega
    rw [e1]
    simp only
    by_cases h8 : 8 < b.toNat
    · simp [h8, failS]
    · rw [if_neg h8]
      by_cases hlen : r.length < b.toNat
      · have e2 : bytesS (r, 0) (b.toNat : Int) = (([], 1), []) := by unfold bytesS; rw [if_pos (.inr (by simp; omega))]; simp [failS]
        rw [e2]
        simp
      · have e2 : bytesS (r, 0) (b.toNat : Int) = ((r.drop b.toNat, 0), r.take b.toNat) := by unfold bytesS; rw [if_neg (by simp; omega)]; simp
        rw [e2]
        have hl : (r.take b.toNat).length = b.toNat := by rw [List.length_take]; omega
        have hcat : r.take b.toNat ++ r.drop b.toNat = r := List.take_append_drop _ _
        cases ht : r.take b.toNat with
        | nil =>
          rw [ht] at hl hcat
          have hb0 : b = 0 := UInt8.toNat_inj.1 (by simpa using hl.symm)
          simp only [List.nil_append] at hcat
          simp [numOf_zero, hb0]
        | cons x t =>
          rw [ht] at hl hcat
          simp only
          by_cases hx : x = 0
          · simp [hx, failS]
          · simp only [if_neg hx]
            intro _
            rw [numOf_val x t hx, hl, List.cons_append, hcat]
            congr 1
            apply UInt8.toNat_inj.1
            rw [UInt8.toNat_ofNat']
            have := b.toNat_lt
            omega
theorem numS_lt (s : BSt) : (numS s).2 < 18446744073709551616 := by
  unfold numS
  split
  · simp
  · rename_i s1 b r h1
    split
    · simp
    · rename_i h8
      split
      · simp
      · rename_i s2 x t h2
        split
        · simp
        · have hl : (x :: t).length ≤ 8 := by
            have e : x :: t = (bytesS s1 (b.toNat : Int)).2 := by rw [h2]
            rw [e]
            unfold bytesS
            split
            · simp
            · simp; omega
          have h3 := val_lt (x :: t)
          have h4 : 256 ^ (x :: t).length ≤ 256 ^ 8 := Nat.pow_le_pow_right (by omega) hl
          have h5 : (256 : Nat) ^ 8 = 18446744073709551616 := by decide
          simp only
          omega
end Go.Proofs.Ytbkknhlagohhhaa
