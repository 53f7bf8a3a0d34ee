/-
  Package oid: Parse: what the signs of a text say, and that it is Text's inverse.
-/
import Derived.Test.YtmbihhfhpijgpaaDoorOid15
namespace Go.Proofs.YtmbihhfhpijgpaaDoor
open Go.RowKit Crv

def dig (b : UInt8) : Nat := (place b).toNat
theorem dig_lt (b : UInt8) : dig b < 32 := by
  have h := place_ok b
  unfold dig
  omega
theorem dig_sgn (n : Nat) (h : n < 32) : dig (sgn n) = n := by
  have h1 := place_sgn ⟨n, h⟩
  simp only at h1
  unfold dig
  rw [h1]
  rfl
theorem sgn_dig (b : UInt8) (h : 0 ≤ place b) : sgn (dig b) = b := by
  rcases place_ok b with h1 | ⟨_, _, h1⟩
  · omega
  · exact h1
theorem place_dig (b : UInt8) (h : 0 ≤ place b) : place b = (dig b : Int) := by
  unfold dig
  omega
/-- A text as a number. -/
def v32 (l : List UInt8) : Nat := l.foldl (fun a b => a * 32 + dig b) 0
theorem v32_snoc (l : List UInt8) (b : UInt8) : v32 (l ++ [b]) = v32 l * 32 + dig b := by simp [v32]
theorem v32_take_succ (l : List UInt8) (k : Nat) (h : k < l.length) : v32 (l.take (k + 1)) = v32 (l.take k) * 32 + dig (l.getD k 0) := by
  rw [List.take_succ_eq_append_getElem h, v32_snoc, List.getD_eq_getElem?_getD, List.getElem?_eq_getElem h]
  rfl
theorem v32_lt_rev : ∀ l : List UInt8, v32 l.reverse < 32 ^ l.length
  | [] => by simp [v32]
  | b :: r => by
    have h := v32_lt_rev r
    have hb := dig_lt b
    rw [List.reverse_cons, v32_snoc, List.length_cons, Nat.pow_succ]
    omega
theorem v32_lt (l : List UInt8) : v32 l < 32 ^ l.length := by
  have := v32_lt_rev l.reverse
  rwa [List.reverse_reverse, List.length_reverse] at this
theorem v32_div (s : List UInt8) (hs : s.length = 52) : ∀ d, d ≤ 52 → v32 s / 2 ^ (5 * d) = v32 (s.take (52 - d))
  | 0, _ => by rw [List.take_of_length_le (by omega)]; simp
  | d + 1, h => by
    have ih := v32_div s hs d (by omega)
    have h1 := v32_take_succ s (52 - (d + 1)) (by omega)
    have hd := dig_lt (s.getD (52 - (d + 1)) 0)
    rw [show 52 - (d + 1) + 1 = 52 - d from by omega] at h1
    rw [show 5 * (d + 1) = 5 * d + 5 from by omega, Nat.pow_add, ← Nat.div_div_eq_div_mul, ih, h1]
    omega
theorem v32_at (s : List UInt8) (hs : s.length = 52) (i c : Nat) (hi : i ≤ 52) : v32 (s.take i) / 2 ^ c = v32 s / 2 ^ (260 - 5 * i + c) := by
  have h := v32_div s hs (52 - i) (by omega)
  rw [show 52 - (52 - i) = i from by omega, show 5 * (52 - i) = 260 - 5 * i from by omega] at h
  rw [← h, Nat.div_div_eq_div_mul, ← Nat.pow_add]
/-- The byte j of the name that a text says. -/
def byteAt (s : List UInt8) (j : Nat) : UInt8 := UInt8.ofNat (v32 s / 2 ^ (252 - 8 * j) % 256)
def parseOf (s : List UInt8) : List UInt8 := (List.range 32).map (byteAt s)
theorem length_parseOf (s : List UInt8) : (parseOf s).length = 32 := by simp [parseOf]
/-- A text that says a name. -/
def Fits (s : List UInt8) : Prop := s.length = 52 ∧ (∀ b ∈ s, 0 ≤ place b) ∧ v32 s % 16 = 0
theorem byteAt_nat (s : List UInt8) (j : Nat) : (byteAt s j).toNat = v32 s / 2 ^ (252 - 8 * j) % 256 := by
  have h : v32 s / 2 ^ (252 - 8 * j) % 256 < 256 := Nat.mod_lt _ (by omega)
  simp [byteAt]
theorem num_range (s : List UInt8) (hs : s.length = 52) : ∀ n, n ≤ 32 → num ((List.range n).map (byteAt s)) = v32 s / 2 ^ (260 - 8 * n)
  | 0, _ => by
    have h := v32_lt s
    rw [hs, show (32 : Nat) ^ 52 = 2 ^ 260 from by decide +kernel] at h
    simp only [List.range_zero, List.map_nil, num, List.foldl_nil]
    rw [Nat.mul_zero, Nat.sub_zero, Nat.div_eq_of_lt h]
  | n + 1, h => by
    have ih := num_range s hs n (by omega)
    rw [List.range_succ, List.map_append, List.map_cons, List.map_nil, num_snoc, ih, byteAt_nat]
    rw [show 260 - 8 * n = (260 - 8 * (n + 1)) + 8 from by omega, show 252 - 8 * n = 260 - 8 * (n + 1) from by omega, Nat.pow_add, ← Nat.div_div_eq_div_mul]
    omega
theorem num_parseOf (s : List UInt8) (hs : s.length = 52) : num (parseOf s) = v32 s / 16 := num_range s hs 32 (by omega)
theorem text_parse (s : List UInt8) (h : Fits s) : textOf (parseOf s) = s := by
  obtain ⟨hs, hg, hm⟩ := h
  have hN : num (parseOf s) * 16 = v32 s := by rw [num_parseOf s hs]; omega
  rw [textOf_digits]
  refine List.ext_getElem (by simp [hs]) ?_
  intro i h1 h2
  have hi : i < 52 := by simpa using h1
  rw [List.getElem_map, List.getElem_range]
  have hv := v32_at s hs (i + 1) 0 (by omega)
  rw [Nat.pow_zero, Nat.div_one, show 260 - 5 * (i + 1) + 0 = 255 - 5 * i from by omega, v32_take_succ s i h2] at hv
  have hd := dig_lt (s.getD i 0)
  have e : s.getD i 0 = s[i] := by rw [List.getD_eq_getElem?_getD, List.getElem?_eq_getElem h2]; rfl
  rw [e] at hv hd
  have hdg : digit (parseOf s) i = dig s[i] := by
    unfold digit
    rw [hN, ← hv]
    omega
  rw [hdg, sgn_dig _ (hg _ (List.getElem_mem h2))]
theorem v32_text (x : List UInt8) (hx : x.length = 32) : ∀ n, n ≤ 52 → v32 ((List.range n).map fun i => sgn (digit x i)) = num x * 16 / 2 ^ (260 - 5 * n)
  | 0, _ => by
    have h := num_lt x
    rw [hx, show (256 : Nat) ^ 32 = 2 ^ 256 from by decide +kernel] at h
    simp only [List.range_zero, List.map_nil, v32, List.foldl_nil]
    rw [Nat.mul_zero, Nat.sub_zero, Nat.div_eq_of_lt]
    rw [show (2 : Nat) ^ 260 = 2 ^ 256 * 16 from by decide +kernel]
    exact (Nat.mul_lt_mul_right (by omega)).mpr h
  | n + 1, h => by
    have ih := v32_text x hx n (by omega)
    rw [List.range_succ, List.map_append, List.map_cons, List.map_nil, v32_snoc, ih, dig_sgn _ (digit_lt x n)]
    unfold digit
    rw [show 260 - 5 * n = (260 - 5 * (n + 1)) + 5 from by omega, show 255 - 5 * n = 260 - 5 * (n + 1) from by omega, Nat.pow_add, ← Nat.div_div_eq_div_mul]
    omega
theorem v32_textOf (x : List UInt8) (hx : x.length = 32) : v32 (textOf x) = num x * 16 := by
  rw [textOf_digits, v32_text x hx 52 (by omega)]
  exact Nat.div_one _
theorem fits_text (x : List UInt8) (hx : x.length = 32) : Fits (textOf x) := by
  refine ⟨length_textOf x, ?_, ?_⟩
  · intro b hb
    rw [textOf_digits, List.mem_map] at hb
    obtain ⟨i, _, rfl⟩ := hb
    have := place_sgn ⟨digit x i, digit_lt x i⟩
    simp only at this
    omega
  · rw [v32_textOf x hx]; omega
theorem parse_text (x : List UInt8) (hx : x.length = 32) : parseOf (textOf x) = x := by
  refine List.ext_getElem (by rw [length_parseOf, hx]) ?_
  intro j h1 h2
  have hj : j < 32 := by omega
  apply UInt8.toNat_inj.mp
  simp only [parseOf, List.getElem_map, List.getElem_range]
  rw [byteAt_nat, v32_textOf x hx]
  have h3 := num_div x (j + 1)
  rw [hx, num_take_succ x j h2, show (256 : Nat) ^ (32 - (j + 1)) = 2 ^ (8 * (32 - (j + 1))) from by rw [show (256 : Nat) = 2 ^ 8 from rfl, ← Nat.pow_mul], show 8 * (32 - (j + 1)) = 248 - 8 * j from by omega] at h3
  have h4 : num x * 16 / 2 ^ (252 - 8 * j) = num x / 2 ^ (248 - 8 * j) := by
    rw [show 252 - 8 * j = (248 - 8 * j) + 4 from by omega, Nat.pow_add]
    exact Nat.mul_div_mul_right _ _ (by omega)
  have e : x.getD j 0 = x[j] := by rw [List.getD_eq_getElem?_getD, List.getElem?_eq_getElem h2]; rfl
  have hb := x[j].toNat_lt
  rw [h4, h3, e]
  omega
end Go.Proofs.YtmbihhfhpijgpaaDoor
