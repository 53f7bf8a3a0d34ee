/-
  A mesh in memory.
-/
import Derived.Test.YtaicjdjfhbmfeaaDoorMsm0
namespace Go.Proofs.YtaicjdjfhbmfeaaDoor
open Go.RowKit Crv

abbrev Tss : TypeId := 80
abbrev Tst : TypeId := 9
/-- A block of cells of this type, none of them frozen. -/
def Tag (W : World) (b : Nat) (t : TypeId) : Prop := ∃ cs, W.heap[b]? = some (Obj.cells cs t (0, 0))
theorem Tag.lt {W : World} {b : Nat} {t : TypeId} (h : Tag W b t) : b < W.heap.size := by
  obtain ⟨cs, h⟩ := h
  exact (Array.getElem?_eq_some_iff.1 h).1
theorem Tag.frozen {W : World} {b : Nat} {t : TypeId} (h : Tag W b t) (i : Nat) : W.frozen? ⟨b, i, none⟩ = false := by
  obtain ⟨cs, h⟩ := h
  simp [World.frozen?, h]
theorem Tag.apart {W : World} {b b' : Nat} {t t' : TypeId} (h : Tag W b t) (h' : Tag W b' t') (hne : t ≠ t') : b ≠ b' := by
  obtain ⟨cs, h⟩ := h
  obtain ⟨cs', h'⟩ := h'
  rintro rfl
  rw [h] at h'
  injection h' with h'
  injection h' with _ h2 _
  exact hne h2
theorem Tag.of {W W' : World} {b : Nat} {t : TypeId} (h : Tag W b t) (hb : W'.heap[b]? = W.heap[b]?) : Tag W' b t := by
  obtain ⟨cs, h⟩ := h
  exact ⟨cs, hb.trans h⟩
theorem Tag.mem {W : World} {b : Nat} {t : TypeId} {cs : List Value} (h : Mem W b t cs) : Tag W b t := ⟨_, h⟩
theorem Tag.set {W : World} {b : Nat} {t : TypeId} (h : Tag W b t) (g i : Nat) (u : Value) : Tag (W.setCell ⟨g, i, none⟩ u) b t := by
  obtain ⟨cs, h⟩ := h
  by_cases e : b = g
  · subst e
    refine ⟨cs.setIfInBounds i u, ?_⟩
    simp [World.setCell, Array.getElem?_modify, h]
  · exact ⟨cs, (Below.heap_setCell W _ u b e).trans h⟩
theorem cell_set_same {W : World} {b i : Nat} {v u : Value} (h : W.cell? ⟨b, i, none⟩ = some v) : (W.setCell ⟨b, i, none⟩ u).cell? ⟨b, i, none⟩ = some u := World.cell?_setCell_same (h := h) ..
theorem cell_set_other {W : World} {b i : Nat} {p : Addr} {v u : Value} (h : W.cell? ⟨b, i, none⟩ = some v) (hne : ¬ (b = p.block ∧ i = p.off)) : (W.setCell p u).cell? ⟨b, i, none⟩ = some v := by
  rw [World.cell?_setCell_other (h := fun e => hne (by rw [e]; exact ⟨rfl, rfl⟩))]
  exact h

/-- The blocks of a mesh. -/
def Foot (mb bb : Nat) (qb : Nat → Nat) (sv : Nat → Nat → Value) (n b : Nat) : Prop := b = mb ∨ b = bb ∨ (∃ t, t < n ∧ b = qb t) ∨ ∃ t f, t < n ∧ f < n ∧ (sv t f).ownBlock = some b
section
variable {W W' : World} {mb bb : Nat} {qb : Nat → Nat} {sv : Nat → Nat → Value} {x : MS}
theorem owns_tag {W : World} {base : Nat} {e : TypeId} {v : Value} {xs : List Value} (h : Owns W base e v xs) : ∀ g, v.ownBlock = some g → Tag W g e := by
  intro g hg
  rcases h.2 with ⟨rfl, _⟩ | ⟨g', cap, cur, rfl, h1, h2, h3⟩
  · cases hg
  · have : g' = g := by simpa [Value.ownBlock] using hg
    subst this
    exact ⟨_, h2⟩
end
/-- What a call leaves alone: every block but those of F. -/
structure Fr (F : Nat → Prop) (W W' : World) : Prop where
  os : W'.os = W.os
  tape : W'.tape = W.tape
  output : W'.output = W.output
  size : W.heap.size ≤ W'.heap.size
  block : ∀ k, k < W.heap.size → ¬ F k → W'.heap[k]? = W.heap[k]?
theorem Fr.refl (F : Nat → Prop) (W : World) : Fr F W W := ⟨rfl, rfl, rfl, Nat.le_refl _, fun _ _ _ => rfl⟩
theorem Fr.trans {F F' : Nat → Prop} {a b c : World} (h : Fr F a b) (k : Fr F' b c) (hF : ∀ i, F' i → F i ∨ a.heap.size ≤ i) : Fr F a c :=
  ⟨k.os.trans h.os, k.tape.trans h.tape, k.output.trans h.output, Nat.le_trans h.size k.size, fun i hi hn => (k.block i (Nat.lt_of_lt_of_le hi h.size) (fun e => by rcases hF i e with h1 | h1; exact hn h1; omega)).trans (h.block i hi hn)⟩
theorem Fr.mono {F F' : Nat → Prop} {a b : World} (h : Fr F a b) (hF : ∀ i, F i → F' i) : Fr F' a b := ⟨h.os, h.tape, h.output, h.size, fun k hk hn => h.block k hk (fun e => hn (hF k e))⟩
theorem Fr.of_below {F : Nat → Prop} {a b : World} (h : Below a.heap.size a b) : Fr F a b := ⟨h.os, h.tape, h.output, h.size, fun k hk _ => h.block k hk⟩
theorem Fr.of_grown {F : Nat → Prop} {a b : World} {r : Option Nat} (h : a.grownBy b r) (hF : ∀ k, r = some k → F k) : Fr F a b := ⟨h.os, h.tape, h.output, h.size, fun k hk hn => h.block k hk (fun e => hn (hF k e.symm))⟩
theorem Fr.below {F : Nat → Prop} {B : Nat} {a b : World} (h : Fr F a b) (hF : ∀ k, k < B → ¬ F k) (hB : B ≤ a.heap.size) : Below B a b := ⟨h.os, h.tape, h.output, h.size, fun k hk => h.block k (by omega) (hF k hk)⟩
theorem Fr.set {F : Nat → Prop} {a : World} (p : Addr) (u : Value) (hp : F p.block) : Fr F a (a.setCell p u) := ⟨rfl, rfl, rfl, by simp [World.setCell], fun k _ hn => Below.heap_setCell a p u k (fun e => hn (e ▸ hp))⟩
/-- F, and what is new. -/
abbrev And_new (F : Nat → Prop) (W : World) : Nat → Prop := fun b => F b ∨ W.heap.size ≤ b
end Go.Proofs.YtaicjdjfhbmfeaaDoor
