/-
  Package oid: Text.
-/
import Derived.Test.YtaicjdjfhbmfeaaDoorOid6
namespace Go.Proofs.YtaicjdjfhbmfeaaDoor
open Go.RowKit Crv

/-- A name as a number. -/
def num (l : List UInt8) : Nat := l.foldl (fun a b => a * 256 + b.toNat) 0
theorem num_snoc (l : List UInt8) (b : UInt8) : num (l ++ [b]) = num l * 256 + b.toNat := by simp [num]
theorem num_foldl (l : List UInt8) : ∀ a, l.foldl (fun a b => a * 256 + b.toNat) a = a * 256 ^ l.length + num l := by
  induction l with
  | nil => intro a; simp [num]
  | cons b r ih =>
    intro a
    have h1 := ih (a * 256 + b.toNat)
    have h2 := ih (0 * 256 + b.toNat)
    rw [List.foldl_cons, h1]
    unfold num
    rw [List.foldl_cons, h2, List.length_cons, Nat.pow_succ, Nat.add_mul, Nat.mul_assoc, Nat.mul_comm 256, Nat.zero_mul, Nat.zero_add, Nat.add_assoc]
    rfl
theorem num_append (a b : List UInt8) : num (a ++ b) = num a * 256 ^ b.length + num b := by
  rw [num, List.foldl_append, num_foldl]
  rfl
theorem num_lt_rev : ∀ l : List UInt8, num l.reverse < 256 ^ l.length
  | [] => by simp [num]
  | b :: r => by
    have h := num_lt_rev r
    have hb := b.toNat_lt
    rw [List.reverse_cons, num_snoc, List.length_cons, Nat.pow_succ]
    omega
theorem num_lt (l : List UInt8) : num l < 256 ^ l.length := by
  have := num_lt_rev l.reverse
  rwa [List.reverse_reverse, List.length_reverse] at this
theorem num_take_succ (l : List UInt8) (k : Nat) (h : k < l.length) : num (l.take (k + 1)) = num (l.take k) * 256 + (l.getD k 0).toNat := by
  rw [List.take_succ_eq_append_getElem h, num_snoc, List.getD_eq_getElem?_getD, List.getElem?_eq_getElem h]
  rfl
theorem num_div (l : List UInt8) (k : Nat) : num l / 256 ^ (l.length - k) = num (l.take k) := by
  have h := num_append (l.take k) (l.drop k)
  rw [List.take_append_drop, List.length_drop] at h
  have h2 := num_lt (l.drop k)
  rw [List.length_drop] at h2
  rw [h, Nat.mul_comm, Nat.mul_add_div (Nat.pow_pos (by omega)), Nat.div_eq_of_lt h2, Nat.add_zero]

def alpha : List UInt8 := [48, 49, 50, 51, 52, 53, 54, 55, 56, 57, 97, 98, 99, 100, 102, 103, 104, 105, 106, 107, 108, 109, 110, 112, 113, 114, 115, 118, 119, 120, 121, 122]
def sgn (n : Nat) : UInt8 := alpha.getD n 0
/-- The first e signs of a name. -/
def signs (N e : Nat) : List UInt8 := (List.range e).map fun i => sgn (N / 2 ^ (251 - 5 * i) % 32)
theorem signs_succ (N e : Nat) : signs N (e + 1) = signs N e ++ [sgn (N / 2 ^ (251 - 5 * e) % 32)] := by simp [signs, List.range_succ]
theorem length_signs (N e : Nat) : (signs N e).length = e := by simp [signs]
/-- A name's signs. -/
def textOf (x : List UInt8) : List UInt8 := signs (num x) 51 ++ [sgn (num x * 16 % 32)]
theorem length_textOf (x : List UInt8) : (textOf x).length = 52 := by simp [textOf, length_signs]
theorem sign_at (x : List UInt8) (hx : x.length = 32) (k e c : Nat) (hk : k ≤ 32) (hc : 5 ≤ c) (h : 8 * k = 5 * e + c) : num (x.take k) / 2 ^ (c - 5) % 32 = num x / 2 ^ (251 - 5 * e) % 32 := by
  rw [← num_div x k, hx, show (256 : Nat) ^ (32 - k) = 2 ^ (8 * (32 - k)) from by rw [show (256 : Nat) = 2 ^ 8 from rfl, ← Nat.pow_mul], Nat.div_div_eq_div_mul, ← Nat.pow_add, show 8 * (32 - k) + (c - 5) = 251 - 5 * e from by omega]
theorem mod_shift (V j : Nat) (hj : j ≤ 20) : V % 4294967296 / 2 ^ j % 32 = V / 2 ^ j % 32 := by
  have e : (4294967296 : Nat) = 2 ^ j * 2 ^ (32 - j) := by rw [← Nat.pow_add, show j + (32 - j) = 32 from by omega]
  rw [e, Nat.mod_mul_right_div_self]
  have e2 : (2 : Nat) ^ (32 - j) = 32 * 2 ^ (27 - j) := by rw [show (32 : Nat) = 2 ^ 5 from rfl, ← Nat.pow_add, show 5 + (27 - j) = 2 ^ 5 - j from by simp; omega]
  rw [e2, Nat.mod_mul_right_mod]

theorem or_low (h b : Nat) (hb : b < 256) : bits .or .u32 ((h : Int) * 256 % 4294967296) (b : Int) = (((h * 256 + b) % 4294967296 : Nat) : Int) := by
  have e : ((h : Int) * 256 % 4294967296) = ((h % 16777216 * 256 : Nat) : Int) := by omega
  have h1 := Nat.shiftLeft_add_eq_or_of_lt (i := 8) (b := b) hb (h % 16777216)
  rw [Nat.shiftLeft_eq] at h1
  rw [e, u32_or_nat _ _ (by omega) (by omega), ← h1]
  congr 1
  omega
theorem and_31 (n : Nat) (hn : n < 4294967296) : bits .and .u32 (n : Int) 31 = ((n % 32 : Nat) : Int) := by
  rw [show (31 : Int) = ((31 : Nat) : Int) from rfl, u32_and_nat _ _ hn (by omega), show (31 : Nat) = 2 ^ 5 - 1 from rfl, Nat.and_two_pow_sub_one_eq_mod]

end Go.Proofs.YtaicjdjfhbmfeaaDoor
