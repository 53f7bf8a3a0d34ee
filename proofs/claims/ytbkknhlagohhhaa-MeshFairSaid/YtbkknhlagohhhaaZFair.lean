/-
  Mathematics of MeshFair: turns.
-/
import Derived.Test.YtbkknhlagohhhaaMsm11
namespace Go.Proofs.Ytbkknhlagohhhaa
open Crv

/-- How many of the first k are so. -/
def cntB (p : Nat → Bool) : Nat → Nat
  | 0 => 0
  | k + 1 => cntB p k + (if p k then 1 else 0)
theorem cntB_pos {p : Nat → Bool} : ∀ {k : Nat}, 0 < cntB p k → ∃ f, f < k ∧ p f = true
  | 0, h => by simp [cntB] at h
  | k + 1, h => by
    by_cases hp : p k = true
    · exact ⟨k, by omega, hp⟩
    · unfold cntB at h
      rw [if_neg hp] at h
      obtain ⟨f, h1, h2⟩ := cntB_pos (k := k) (by omega)
      exact ⟨f, by omega, h2⟩
theorem cntB_same {p p' : Nat → Bool} : ∀ {k : Nat}, (∀ f, f < k → p f = p' f) → cntB p k = cntB p' k
  | 0, _ => rfl
  | k + 1, h => by
    unfold cntB
    rw [cntB_same (k := k) (fun f hf => h f (by omega)), h k (by omega)]
theorem cntB_less {p : Nat → Bool} {f : Nat} (hp : p f = true) : ∀ {k : Nat}, f < k → cntB (fun i => if i = f then false else p i) k + 1 = cntB p k
  | 0, h => by omega
  | k + 1, h => by
    by_cases e : f = k
    · subst e
      unfold cntB
      rw [hp, cntB_same (p := fun i => if i = f then false else p i) (p' := p) (fun i hi => by simp [show i ≠ f by omega])]
      simp
    · have ih := cntB_less hp (k := k) (by omega)
      unfold cntB
      rw [if_neg (show ¬ k = f by omega)]
      omega
theorem cntB_le (p : Nat → Bool) : ∀ k, cntB p k ≤ k
  | 0 => Nat.le_refl _
  | k + 1 => by
    have := cntB_le p k
    unfold cntB
    split <;> omega
/-- Whose turn comes how late (ten addresses). -/
def rankT (s f : Nat) : Nat := (f + 10 - s) % 10
/-- Those that are still to come: they wait, and their turn comes ahead of all others that wait. -/
def ToCome (x : MS) (r : Nat → Bool) : Prop := x.n = 10 ∧ x.s1 0 ≤ 10 ∧ (∀ f, r f = true → f < 10 ∧ x.q 0 f ≠ []) ∧ ∀ f g, r f = true → g < 10 → r g = false → x.q 0 g ≠ [] → rankT (x.s1 0) f < rankT (x.s1 0) g
theorem ToCome.start {x : MS} (h1 : x.n = 10) (h2 : x.s1 0 ≤ 10) : ToCome x (fun f => decide (f < 10) && decide (0 < (x.q 0 f).length)) := by
  refine ⟨h1, h2, fun f hf => ?_, fun f g hf hg hr hq => ?_⟩
  · simp only [Bool.and_eq_true, decide_eq_true_eq] at hf
    exact ⟨hf.1, fun e => by rw [e] at hf; simp at hf⟩
  · have : 0 < (x.q 0 g).length := by
      cases hc : x.q 0 g with
      | nil => exact absurd hc hq
      | cons a r => simp
    simp [hg, this] at hr
theorem rank_of {s i : Nat} (hs : s ≤ 10) (hi : i < 10) : rankT s ((s + i) % 10) = i := by
  unfold rankT
  omega
theorem of_rank {s f : Nat} (hs : s ≤ 10) (hf : f < 10) : (s + rankT s f) % 10 = f := by
  unfold rankT
  omega
theorem ToCome.take {x : MS} {r : Nat → Bool} (h : ToCome x r) (hc : 0 < cntB r 10) : ∃ f, nextM x 0 = some f ∧ r f = true ∧ f < 10 ∧ ToCome (takeI x 0).1 (fun i => if i = f then false else r i) ∧ cntB (fun i => if i = f then false else r i) 10 + 1 = cntB r 10 := by
  obtain ⟨h1, h2, h3, h4⟩ := h
  obtain ⟨f0, hf0, hr0⟩ := cntB_pos hc
  obtain ⟨_, hq0⟩ := h3 f0 hr0
  obtain ⟨s, hs⟩ : ∃ s, s = x.s1 0 := ⟨_, rfl⟩
  rw [← hs] at h2 h4
  cases hi : nextI x 0 with
  | none =>
    have := nextI_empty hi (rankT s f0) (by rw [h1]; unfold rankT; omega)
    rw [← hs, h1, of_rank h2 hf0] at this
    exact absurd this hq0
  | some i =>
    obtain ⟨g1, g2, g3⟩ := nextI_spec hi
    rw [h1] at g1
    rw [← hs, h1] at g2 g3
    have hn : nextM x 0 = some ((s + i) % 10) := by
      unfold nextM
      rw [hi, h1, ← hs]
      rfl
    obtain ⟨f, hf⟩ : ∃ f, f = (s + i) % 10 := ⟨_, rfl⟩
    have hf10 : f < 10 := by omega
    have hrk : rankT s f = i := by rw [hf]; exact rank_of h2 g1
    rw [← hf] at g2 hn
    have hmin : ∀ g, g < 10 → x.q 0 g ≠ [] → i ≤ rankT s g := by
      intro g hg hq
      rcases Nat.lt_or_ge (rankT s g) i with h | h
      · have := g3 _ h
        rw [of_rank h2 hg] at this
        exact absurd this hq
      · exact h
    have hrf : r f = true := by
      cases hr : r f with
      | true => rfl
      | false =>
        have a := h4 f0 f hr0 hf10 hr g2
        have b := hmin f0 hf0 hq0
        omega
    have ht : takeI x 0 = _ := takeI_some (x := x) (t := 0) (f := f) (by omega) hn
    refine ⟨f, hn, hrf, hf10, ?_, cntB_less hrf hf10⟩
    rw [ht]
    have hqo : ∀ g, g ≠ f → (dropM (serveM x 0 f) 0 f 0).q 0 g = x.q 0 g := fun g hg => by
      show upd2 x.q 0 f _ 0 g = _
      exact upd2_other _ _ (by intro e; exact hg e.2)
    have hs1 : (dropM (serveM x 0 f) 0 f 0).s1 0 = f + 1 := by
      show upd1 x.s1 0 (f + 1) 0 = _
      exact upd1_same _ _ _
    refine ⟨h1, by rw [hs1]; omega, fun f' hf' => ?_, fun f' g hf' hg hr hq => ?_⟩
    · by_cases e : f' = f
      · simp [e] at hf'
      · simp only [e, if_false] at hf'
        obtain ⟨a, b⟩ := h3 f' hf'
        exact ⟨a, by rw [hqo f' e]; exact b⟩
    · rw [hs1]
      by_cases e : f' = f
      · simp [e] at hf'
      · simp only [e, if_false] at hf'
        obtain ⟨a, b⟩ := h3 f' hf'
        have m1 := hmin f' a b
        have hne : rankT s f' ≠ i := by
          intro e2
          apply e
          rw [← of_rank h2 a, ← of_rank h2 hf10, e2, hrk]
        by_cases e2 : g = f
        · subst e2
          unfold rankT at *
          omega
        · simp only [e2, if_false] at hr
          rw [hqo g e2] at hq
          have m2 := h4 f' g hf' hg hr hq
          unfold rankT at *
          omega
end Go.Proofs.Ytbkknhlagohhhaa
