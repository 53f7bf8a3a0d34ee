/-
  Mathematics of MeshOrder: how many wait at one address.
-/
import Derived.Test.YtbkknhlagohhhaaMsm11
namespace Go.Proofs.Ytbkknhlagohhhaa
open Go.RowKit Crv

theorem rowS_upd (x : MS) (t f : Nat) (l : List (List UInt8)) : ∀ k, rowS { x with q := upd2 x.q t f l } t k + (if f < k then (x.q t f).length else 0) = rowS x t k + (if f < k then l.length else 0)
  | 0 => by simp [rowS]
  | k + 1 => by
    have ih := rowS_upd x t f l k
    show rowS { x with q := upd2 x.q t f l } t k + (upd2 x.q t f l t k).length + _ = rowS x t k + (x.q t k).length + _
    by_cases e : k = f
    · subst e
      rw [upd2_same, if_pos (by omega), if_pos (by omega)]
      rw [if_neg (by omega), if_neg (by omega)] at ih
      omega
    · rw [upd2_other _ _ (by omega)]
      by_cases h : f < k
      · rw [if_pos (by omega), if_pos (by omega)]
        rw [if_pos h, if_pos h] at ih
        omega
      · rw [if_neg (by omega), if_neg (by omega)]
        rw [if_neg h, if_neg h] at ih
        omega
theorem rowS_s1 (x : MS) (s : Nat → Nat) (t : Nat) : ∀ k, rowS { x with s1 := s } t k = rowS x t k
  | 0 => rfl
  | k + 1 => by
    show rowS { x with s1 := s } t k + _ = rowS x t k + _
    rw [rowS_s1 x s t k]
theorem rowS_lost (x : MS) (c : Nat) (t : Nat) : ∀ k, rowS { x with lost := c } t k = rowS x t k
  | 0 => rfl
  | k + 1 => by
    show rowS { x with lost := c } t k + _ = rowS x t k + _
    rw [rowS_lost x c t k]
theorem rowS_take {x : MS} {t f : Nat} (hf : f < x.n) (hq : x.q t f ≠ []) : rowS (dropM (serveM x t f) t f 0) t x.n + 1 = rowS x t x.n := by
  have h := rowS_upd (serveM x t f) t f ((x.q t f).eraseIdx 0) x.n
  have h2 := rowS_s1 x (upd1 x.s1 t (f + 1)) t x.n
  rw [if_pos hf, if_pos hf] at h
  have h3 : rowS (serveM x t f) t x.n = rowS x t x.n := h2
  have h4 : 0 < (x.q t f).length := by
    cases hc : x.q t f with
    | nil => exact absurd hc hq
    | cons a r => simp
  have h5 : ((x.q t f).eraseIdx 0).length = (x.q t f).length - 1 := List.length_eraseIdx_of_lt h4
  have h6 : (serveM x t f).q t f = x.q t f := rfl
  rw [h3, h5, h6] at h
  have h7 : rowS (dropM (serveM x t f) t f 0) t x.n + (x.q t f).length = rowS x t x.n + ((x.q t f).length - 1) := h
  omega
theorem rowS_send (x : MS) (f : Nat) (hf : f < x.n) (s : List UInt8) (hn : 0 < x.n) : rowS (sendM x f s 0).1 0 x.n ≤ rowS x 0 x.n + 1 := by
  unfold sendM
  rw [if_neg (by simp [isAdr, hn, hf])]
  split
  · rw [rowS_lost]; omega
  split
  · rw [rowS_lost]; omega
  · have h := rowS_upd x 0 f (x.q 0 f ++ [s]) x.n
    rw [if_pos hf, if_pos hf, List.length_append] at h
    simp only [Int.toNat_natCast]
    show rowS { x with q := upd2 x.q 0 f (x.q 0 f ++ [s]) } 0 x.n ≤ _
    simp at h
    omega
theorem send_other {x : MS} {f f' : Nat} (s : List UInt8) (h : f' ≠ f) : (sendM x f s 0).1.q 0 f' = x.q 0 f' := by
  unfold sendM
  split
  · rfl
  split
  · rfl
  split
  · rfl
  · simp only [Int.toNat_natCast]
    exact upd2_other _ _ (by intro e; exact h e.2)
/-- What the mesh of MeshOrder is when k texts are sent. -/
def OrI (xs : List (List UInt8)) (k : Nat) (x : MS) : Prop := x.n = 6 ∧ x.q 0 2 = xs ∧ xs.length = k ∧ rowS x 0 6 ≤ 2 * k ∧ x.lost ≤ 2 * k
theorem OrI.start : OrI [] 0 (newM 6) := ⟨rfl, rfl, rfl, by simp [rowS, newM], Nat.le_refl _⟩
/-- One text more (and maybe another one of another source). -/
theorem OrI.one {xs : List (List UInt8)} {k : Nat} {x : MS} (h : OrI xs k x) (hk : k < 8) (s : List UInt8) (hs : s.length ≤ 20) : (sendM x 2 s 0).1.n = 6 ∧ (sendM x 2 s 0).1.q 0 2 = xs ++ [s] ∧ rowS (sendM x 2 s 0).1 0 6 ≤ 2 * k + 1 ∧ (sendM x 2 s 0).1.lost ≤ 2 * k + 1 ∧ (sendM x 2 s 0).2 = 0 := by
  obtain ⟨h1, h2, h3, h4, h5⟩ := h
  have e := sendM_ok (x := x) (t := 0) (f := 2) (s := s) (by omega) (by omega) (by omega) (by rw [h2]; omega)
  have hr := rowS_send x 2 (by omega) s (by omega)
  rw [h1] at hr
  have e' : sendM x 2 s 0 = _ := e
  have hr' : rowS (sendM x 2 s 0).1 0 6 ≤ rowS x 0 6 + 1 := hr
  refine ⟨by rw [sendM_n, h1], ?_, by omega, by have := sendM_lost x 2 s 0; omega, by rw [e']⟩
  rw [e']
  simp only
  rw [upd2_same, h2]
theorem OrI.two {xs : List (List UInt8)} {k : Nat} {x : MS} (h1 : x.n = 6) (h2 : x.q 0 2 = xs) (h3 : xs.length = k + 1) (h4 : rowS x 0 6 ≤ 2 * k + 1) (h5 : x.lost ≤ 2 * k + 1) (f : Nat) (hf : f < 6) (hf2 : f ≠ 2) (s : List UInt8) : OrI xs (k + 1) (sendM x f s 0).1 := by
  have hr := rowS_send x f (by omega) s (by omega)
  rw [h1] at hr
  exact ⟨by rw [sendM_n, h1], by rw [send_other s (Ne.symm hf2), h2], h3, by omega, by have := sendM_lost x f s 0; omega⟩
theorem OrI.none {xs : List (List UInt8)} {k : Nat} {x : MS} (h1 : x.n = 6) (h2 : x.q 0 2 = xs) (h3 : xs.length = k + 1) (h4 : rowS x 0 6 ≤ 2 * k + 1) (h5 : x.lost ≤ 2 * k + 1) : OrI xs (k + 1) x := ⟨h1, h2, h3, by omega, by omega⟩
/-- What the mesh is when j are taken, k of them of source 2. -/
def OrT (xs : List (List UInt8)) (j k : Nat) (x : MS) : Prop := x.n = 6 ∧ x.q 0 2 = xs.drop k ∧ k ≤ xs.length ∧ rowS x 0 6 + j ≤ 16
theorem OrT.start {xs : List (List UInt8)} {k : Nat} {x : MS} (h : OrI xs k x) (hk : k ≤ 8) : OrT xs 0 0 x := ⟨h.1, h.2.1, Nat.zero_le _, by have := h.2.2.2.1; omega⟩
theorem OrT.stop {xs : List (List UInt8)} {j k : Nat} {x : MS} (h : OrT xs j k x) (hn : nextM x 0 = none) : k = xs.length := by
  obtain ⟨h1, h2, h3, _⟩ := h
  have := nextM_none hn 2 (by omega)
  rw [h2] at this
  have := congrArg List.length this
  rw [List.length_drop] at this
  simp at this
  omega
theorem OrT.lt {xs : List (List UInt8)} {j k : Nat} {x : MS} (h : OrT xs j k x) : j ≤ 16 := by
  have := h.2.2.2
  omega
theorem OrT.two {xs : List (List UInt8)} {j k : Nat} {x : MS} (h : OrT xs j k x) (hn : nextM x 0 = some 2) : OrT xs (j + 1) (k + 1) (takeI x 0).1 ∧ k < xs.length ∧ (takeI x 0).2 = some (2, xs.getD k []) := by
  obtain ⟨h1, h2, h3, h4⟩ := h
  obtain ⟨hf, hq⟩ := nextM_spec hn
  have ht := takeI_some (x := x) (t := 0) (f := 2) (by omega) hn
  have ht' : takeI x 0 = _ := ht
  have hlt : k < xs.length := by
    rw [h2] at hq
    rcases Nat.lt_or_ge k xs.length with h | h
    · exact h
    · exact absurd (List.drop_eq_nil_of_le h) hq
  have hr := rowS_take hf hq
  rw [h1] at hr
  rw [ht']
  refine ⟨⟨h1, ?_, by omega, by simp only; omega⟩, hlt, ?_⟩
  · show upd2 x.q 0 2 ((x.q 0 2).eraseIdx 0) 0 2 = _
    rw [upd2_same, h2, List.eraseIdx_zero, List.tail_drop]
  · rw [h2]
    simp [List.getD_eq_getElem?_getD]
theorem OrT.other {xs : List (List UInt8)} {j k f : Nat} {x : MS} (h : OrT xs j k x) (hn : nextM x 0 = some f) (hf2 : f ≠ 2) : OrT xs (j + 1) k (takeI x 0).1 ∧ (takeI x 0).2 = some (f, (x.q 0 f).getD 0 []) ∧ f < 6 := by
  obtain ⟨h1, h2, h3, h4⟩ := h
  obtain ⟨hf, hq⟩ := nextM_spec hn
  have ht := takeI_some (x := x) (t := 0) (f := f) (by omega) hn
  have ht' : takeI x 0 = _ := ht
  have hr := rowS_take hf hq
  rw [h1] at hr
  rw [ht']
  refine ⟨⟨h1, ?_, h3, by simp only; omega⟩, rfl, by omega⟩
  show upd2 x.q 0 f ((x.q 0 f).eraseIdx 0) 0 2 = _
  rw [upd2_other _ _ (by intro e; exact hf2 e.2.symm), h2]
end Go.Proofs.Ytbkknhlagohhhaa
