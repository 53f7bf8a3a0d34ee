/-
  Plain mathematics of layer 8: where chunks end.
-/
import Derived.Test.YtbjeiiofanpkdaaDoorGea0
namespace Crv

/-- Does a chunk end behind its n-th byte, where its hash is v? -/
def endsB (n v : Nat) : Bool := decide (256 ≤ n) || (if 96 ≤ n then decide (v &&& maskOf 5 = 0) else (decide (32 ≤ n) && decide (v &&& maskOf 8 = 0)))
theorem endsB_short {n v : Nat} (h : n < 32) : endsB n v = false := by
  unfold endsB
  rw [decide_eq_false (by omega), if_neg (by omega), decide_eq_false (by omega)]
  rfl
theorem endsB_long {n v : Nat} (h : 256 ≤ n) : endsB n v = true := by
  unfold endsB
  rw [decide_eq_true h]
  rfl
/-- Does the chunk in progress, of n bytes and hash v, end with the i-th byte of a part? -/
def stops (t : List Nat) (v n : Nat) (p : List UInt8) (i : Nat) : Bool := endsB (n + i + 1) (rollFrom t v (p.take (i + 1)))
def firstStop (t : List Nat) (v n : Nat) (p : List UInt8) : Option Nat := (List.range p.length).find? (stops t v n p)
theorem firstStop_some {t : List Nat} {v n : Nat} {p : List UInt8} {i : Nat} (hi : i < p.length) (hs : stops t v n p i = true) (hb : ∀ j, j < i → stops t v n p j = false) : firstStop t v n p = some i := by
  unfold firstStop
  rw [List.find?_range_eq_some]
  refine ⟨hs, by simpa using hi, fun j hj => by rw [hb j hj]; rfl⟩
theorem firstStop_none {t : List Nat} {v n : Nat} {p : List UInt8} (hb : ∀ j, j < p.length → stops t v n p j = false) : firstStop t v n p = none := by
  unfold firstStop
  rw [List.find?_eq_none]
  intro x hx
  rw [hb x (by simpa using hx)]
  simp
theorem of_firstStop_some {t : List Nat} {v n : Nat} {p : List UInt8} {i : Nat} (h : firstStop t v n p = some i) : i < p.length ∧ stops t v n p i = true ∧ ∀ j, j < i → stops t v n p j = false := by
  unfold firstStop at h
  rw [List.find?_range_eq_some] at h
  obtain ⟨h1, h2, h3⟩ := h
  refine ⟨by simpa using h2, h1, fun j hj => ?_⟩
  have := h3 j hj
  simpa using this
theorem of_firstStop_none {t : List Nat} {v n : Nat} {p : List UInt8} (h : firstStop t v n p = none) : ∀ j, j < p.length → stops t v n p j = false := by
  unfold firstStop at h
  rw [List.find?_eq_none] at h
  intro j hj
  have := h j (by simpa using hj)
  simpa using this
/-- How many bytes of a part belong to the chunk in progress; whether they complete it; the hash and the count behind them. -/
def advK (t : List Nat) (v n : Nat) (p : List UInt8) : Nat := match firstStop t v n p with | some i => i + 1 | none => p.length
def advD (t : List Nat) (v n : Nat) (p : List UInt8) : Bool := (firstStop t v n p).isSome
def advV (t : List Nat) (v n : Nat) (p : List UInt8) : Nat := match firstStop t v n p with | some _ => 0 | none => rollFrom t v p
def advC (t : List Nat) (v n : Nat) (p : List UInt8) : Nat := match firstStop t v n p with | some _ => 0 | none => n + p.length
theorem advK_le (t : List Nat) (v n : Nat) (p : List UInt8) : advK t v n p ≤ p.length := by
  unfold advK
  split
  · rename_i i h
    have := (of_firstStop_some h).1
    omega
  · exact Nat.le_refl _
theorem advK_pos (t : List Nat) (v n : Nat) {p : List UInt8} (hp : p ≠ []) : 0 < advK t v n p := by
  unfold advK
  split
  · omega
  · exact List.length_pos_iff.2 hp
/-- How many bytes the first chunk has. -/
def endOf (t : List Nat) (s : List UInt8) : Nat := advK t 0 0 s
theorem endOf_le (t : List Nat) (s : List UInt8) : endOf t s ≤ s.length := advK_le t 0 0 s
theorem endOf_pos (t : List Nat) {s : List UInt8} (h : s ≠ []) : 0 < endOf t s := advK_pos t 0 0 h
/-- The chunks. -/
def cutsF (t : List Nat) : Nat → List UInt8 → List (List UInt8)
  | 0, _ => []
  | f + 1, s => if s = [] then [] else s.take (endOf t s) :: cutsF t f (s.drop (endOf t s))
def cuts (t : List Nat) (s : List UInt8) : List (List UInt8) := cutsF t s.length s
theorem cutsF_more (t : List Nat) : ∀ (f g : Nat) (s : List UInt8), s.length ≤ f → f ≤ g → cutsF t g s = cutsF t f s
  | 0, 0, _, _, _ => rfl
  | 0, g + 1, s, h, _ => by
    have : s = [] := List.length_eq_zero_iff.1 (by omega)
    subst this
    simp [cutsF]
  | f + 1, 0, _, _, h => by omega
  | f + 1, g + 1, s, h, hg => by
    unfold cutsF
    by_cases hs : s = []
    · rw [if_pos hs, if_pos hs]
    · rw [if_neg hs, if_neg hs]
      have h1 := endOf_pos t hs
      have h2 := endOf_le t s
      rw [cutsF_more t f g _ (by rw [List.length_drop]; omega) (by omega)]
theorem cuts_nil (t : List Nat) : cuts t [] = [] := rfl
theorem cuts_cons (t : List Nat) {s : List UInt8} (h : s ≠ []) : cuts t s = s.take (endOf t s) :: cuts t (s.drop (endOf t s)) := by
  have h0 : 0 < s.length := List.length_pos_iff.2 h
  have h1 := endOf_pos t h
  have h2 := endOf_le t s
  unfold cuts
  obtain ⟨m, hm⟩ : ∃ m, s.length = m + 1 := ⟨s.length - 1, by omega⟩
  rw [hm]
  show (if s = [] then [] else _) = _
  rw [if_neg h, cutsF_more t (s.drop (endOf t s)).length m _ (Nat.le_refl _) (by rw [List.length_drop]; omega)]
end Crv
