/-
  Plain mathematics of layer 7: numbers of eight bytes, tables, the rolling hash, masks.
-/
import Derived.Test.YtbjeiiofanpkdaaDoorSha
namespace Crv

/-- The number of some bytes, the most significant first. -/
def numB (l : List UInt8) : Nat := l.foldl (fun v b => v * 256 + b.toNat) 0
theorem numB_snoc (l : List UInt8) (b : UInt8) : numB (l ++ [b]) = numB l * 256 + b.toNat := by simp [numB]
theorem numB_lt : ∀ (n : Nat) (l : List UInt8), l.length = n → numB l < 256 ^ n
  | 0, l, h => by
    rw [List.length_eq_zero_iff] at h
    subst h
    decide
  | n + 1, l, h => by
    have hne : l ≠ [] := by intro e; subst e; simp at h
    have hd : (l.dropLast).length = n := by rw [List.length_dropLast]; omega
    have ih := numB_lt n l.dropLast hd
    rw [← List.dropLast_concat_getLast hne, numB_snoc]
    have hb := (l.getLast hne).toNat_lt
    rw [Nat.pow_succ]
    omega
theorem numB_take_succ (l : List UInt8) (k : Nat) (h : k < l.length) : numB (l.take (k + 1)) = numB (l.take k) * 256 + (l.getD k 0).toNat := by
  rw [List.take_succ_eq_append_getElem h, numB_snoc, List.getD_eq_getElem?_getD, List.getElem?_eq_getElem h]
  rfl
theorem numB_take_lt (l : List UInt8) (k : Nat) (hk : k ≤ 8) : numB (l.take k) < 18446744073709551616 := by
  have h1 := numB_lt _ (l.take k) rfl
  have h2 : (l.take k).length ≤ 8 := by rw [List.length_take]; omega
  exact Nat.lt_of_lt_of_le h1 (Nat.pow_le_pow_right (n := 256) (by omega) h2)
theorem numB_take_lt7 (l : List UInt8) (k : Nat) (hk : k < 8) : numB (l.take k) < 72057594037927936 := by
  have h1 := numB_lt _ (l.take k) rfl
  have h2 : (l.take k).length ≤ 7 := by rw [List.length_take]; omega
  exact Nat.lt_of_lt_of_le h1 (Nat.pow_le_pow_right (n := 256) (by omega) h2)

/-- What all tables' bytes begin with. -/
def gearMark : List UInt8 := [103, 101, 97, 114]
/-- The number of a byte in the table of a seed. -/
def gearNum (s : List UInt8) (c : Nat) : Nat := numB ((sha (gearMark ++ (s ++ [UInt8.ofNat c]))).take 8)
theorem gearNum_lt (s : List UInt8) (c : Nat) : gearNum s c < 18446744073709551616 := numB_take_lt _ 8 (Nat.le_refl _)
def gearTab (s : List UInt8) : List Nat := (List.range 256).map (gearNum s)
theorem length_gearTab (s : List UInt8) : (gearTab s).length = 256 := by simp [gearTab]
theorem get_gearTab (s : List UInt8) (i : Nat) (h : i < 256) : (gearTab s)[i]? = some (gearNum s i) := by
  unfold gearTab
  rw [List.getElem?_map, List.getElem?_range h]
  rfl
theorem gearTab_lt (s : List UInt8) : ∀ x ∈ gearTab s, x < 18446744073709551616 := by
  intro x hx
  unfold gearTab at hx
  rw [List.mem_map] at hx
  obtain ⟨c, _, rfl⟩ := hx
  exact gearNum_lt s c

/-- One more byte. -/
def roll (t : List Nat) (v : Nat) (c : UInt8) : Nat := (v * 2 + t.getD c.toNat 0) % 18446744073709551616
def rollFrom (t : List Nat) (v : Nat) (s : List UInt8) : Nat := s.foldl (roll t) v
def rollAll (t : List Nat) (s : List UInt8) : Nat := rollFrom t 0 s
theorem rollFrom_cons (t : List Nat) (v : Nat) (c : UInt8) (s : List UInt8) : rollFrom t v (c :: s) = rollFrom t (roll t v c) s := rfl
theorem rollFrom_append (t : List Nat) (v : Nat) (a b : List UInt8) : rollFrom t v (a ++ b) = rollFrom t (rollFrom t v a) b := List.foldl_append
theorem rollAll_take_succ (t : List Nat) (s : List UInt8) (k : Nat) (h : k < s.length) : rollAll t (s.take (k + 1)) = roll t (rollAll t (s.take k)) (s.getD k 0) := by
  unfold rollAll
  rw [List.take_succ_eq_append_getElem h, rollFrom_append, List.getD_eq_getElem?_getD, List.getElem?_eq_getElem h]
  rfl
theorem roll_lt (t : List Nat) (v : Nat) (c : UInt8) : roll t v c < 18446744073709551616 := Nat.mod_lt _ (by decide)
theorem rollFrom_lt (t : List Nat) : ∀ (s : List UInt8) (v : Nat), v < 18446744073709551616 → rollFrom t v s < 18446744073709551616
  | [], _, h => h
  | c :: s, v, _ => rollFrom_lt t s _ (roll_lt t v c)
theorem rollAll_lt (t : List Nat) (s : List UInt8) : rollAll t s < 18446744073709551616 := rollFrom_lt t s 0 (by decide)
theorem rollFrom_split (t : List Nat) : ∀ (s : List UInt8) (v : Nat), v < 18446744073709551616 → rollFrom t v s = (v * 2 ^ s.length + rollAll t s) % 18446744073709551616
  | [], v, h => by
    show v = (v * 2 ^ 0 + 0) % _
    rw [Nat.pow_zero, Nat.mul_one, Nat.add_zero, Nat.mod_eq_of_lt h]
  | c :: s, v, h => by
    show rollFrom t (roll t v c) s = (v * 2 ^ (s.length + 1) + rollFrom t (roll t 0 c) s) % _
    rw [rollFrom_split t s _ (roll_lt t v c), rollFrom_split t s _ (roll_lt t 0 c)]
    unfold roll
    generalize t.getD c.toNat 0 = x
    generalize rollAll t s = r
    rw [Nat.pow_succ]
    generalize 2 ^ s.length = p
    have e1 : ((v * 2 + x) % 18446744073709551616 * p + r) % 18446744073709551616 = ((v * 2 + x) * p + r) % 18446744073709551616 := by
      rw [Nat.add_mod, Nat.mod_mul_mod, ← Nat.add_mod]
    have e2 : ((0 * 2 + x) % 18446744073709551616 * p + r) % 18446744073709551616 = (x * p + r) % 18446744073709551616 := by
      rw [Nat.zero_mul, Nat.zero_add, Nat.add_mod, Nat.mod_mul_mod, ← Nat.add_mod]
    rw [e1, e2, Nat.add_mod_mod, Nat.add_mul, Nat.mul_assoc, Nat.mul_comm 2 p, Nat.add_assoc]
/-- The hash depends on the last 64 bytes alone. -/
theorem rollAll_local (t : List Nat) (a s : List UInt8) (h : 64 ≤ s.length) : rollAll t (a ++ s) = rollAll t s := by
  unfold rollAll
  rw [rollFrom_append]
  show rollFrom t (rollAll t a) s = _
  rw [rollFrom_split t s _ (rollAll_lt t a)]
  have e : 2 ^ s.length = 18446744073709551616 * 2 ^ (s.length - 64) := by
    rw [show (18446744073709551616 : Nat) = 2 ^ 64 by decide, ← Nat.pow_add]
    congr 1
    omega
  rw [e, ← Nat.mul_assoc, Nat.mul_comm _ 18446744073709551616, Nat.mul_assoc, Nat.mul_add_mod, Nat.mod_eq_of_lt (rollAll_lt t s)]
  rfl

/-- The bit that comes i-th into a mask. -/
def bitAt (i : Nat) : Nat := 63 - 3 * (i % 16) - i / 16
def maskOf : Nat → Nat
  | 0 => 0
  | i + 1 => maskOf i + 2 ^ bitAt i
theorem mask_facts : ∀ i : Fin 49, maskOf i.val < 18446744073709551616 := by decide
theorem mask_lt {i : Nat} (h : i ≤ 48) : maskOf i < 18446744073709551616 := mask_facts ⟨i, by omega⟩
theorem mask_or_facts : ∀ i : Fin 48, maskOf i.val ||| 2 ^ bitAt i.val = maskOf (i.val + 1) := by decide
theorem mask_or {i : Nat} (h : i < 48) : maskOf i ||| 2 ^ bitAt i = maskOf (i + 1) := mask_or_facts ⟨i, h⟩
theorem bitAt_facts : ∀ i : Fin 48, 16 ≤ bitAt i.val ∧ bitAt i.val ≤ 63 := by decide
theorem bitAt_le {i : Nat} (h : i < 48) : 16 ≤ bitAt i ∧ bitAt i ≤ 63 := bitAt_facts ⟨i, h⟩
/-- How many of the lowest i bits are set. -/
def onesTo (m : Nat) : Nat → Nat
  | 0 => 0
  | i + 1 => onesTo m i + m / 2 ^ i % 2
theorem ones_mask : ∀ i : Fin 49, onesTo (maskOf i.val) 64 = i.val := by decide
theorem low_mask : ∀ i : Fin 49, maskOf i.val % 65536 = 0 := by decide
theorem sub_mask : ∀ i : Fin 49, ∀ j : Fin 49, j.val ≤ i.val → maskOf j.val &&& maskOf i.val = maskOf j.val := by decide
end Crv
