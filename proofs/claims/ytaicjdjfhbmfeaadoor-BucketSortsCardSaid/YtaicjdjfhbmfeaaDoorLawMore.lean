/-
  HashMore: the walk.
-/
import Derived.Test.YtaicjdjfhbmfeaaDoorLaw1
import Derived.Test.YtaicjdjfhbmfeaaDoorEq
namespace Go.Proofs.YtaicjdjfhbmfeaaDoor
open Go.RowKit Crv
attribute [local go_sem] ByteArray.mk_append_mk

/-- Two states in memory that is younger than w0. -/
def Two (w0 w : World) (s t : Nat) (m n : List UInt8) : Prop := Below w0.heap.size w0 w ∧ Consts w ∧ Holds w s m ∧ Holds w t n ∧ w0.heap.size ≤ s ∧ w0.heap.size ≤ t ∧ s ≠ t ∧ 3 ≤ w0.heap.size
theorem Two.below {w0 w w' : World} {s t : Nat} {m n : List UInt8} (h : Two w0 w s t m n) (hb : Below w.heap.size w w') : Two w0 w' s t m n :=
  ⟨h.1.trans (hb.mono h.1.size), h.2.1.below hb, h.2.2.1.below hb, h.2.2.2.1.below hb, h.2.2.2.2⟩
theorem Two.alloc {w0 w : World} {s t : Nat} {m n : List UInt8} (h : Two w0 w s t m n) (o : Obj) : Two w0 (w.alloc o) s t m n := h.below ((Below.refl _ _).alloc (Nat.le_refl _) o)
theorem Holds.grown {w w' : World} {s t : Nat} {n : List UInt8} (h : Holds w t n) (hg : w.grownBy w' (some s)) (hne : t ≠ s) : Holds w' t n := by
  obtain ⟨tl, h1, h2, h3⟩ := h
  exact ⟨tl, h1, h2, h3.grown hg (fun e => hne (by injection e))⟩
theorem below_grown_new {w0 w w' : World} {s : Nat} (h : Below w0.heap.size w0 w) (hg : w.grownBy w' (some s)) (hs : w0.heap.size ≤ s) : Below w0.heap.size w0 w' :=
  ⟨hg.os.trans h.os, hg.tape.trans h.tape, hg.output.trans h.output, Nat.le_trans h.size hg.size, fun k hk => (hg.block k (Nat.lt_of_lt_of_le hk h.size) (fun e => by injection e with e; omega)).trans (h.block k hk)⟩
theorem Two.left {w0 w w' : World} {s t : Nat} {m n m' : List UInt8} (h : Two w0 w s t m n) (hg : w.grownBy w' (some s)) (hh : Holds w' s m') : Two w0 w' s t m' n := by
  obtain ⟨h1, h2, h3, h4, h5, h6, h7, h8⟩ := h
  exact ⟨below_grown_new h1 hg h5, h2.grown hg (by omega), hh, h4.grown hg (Ne.symm h7), h5, h6, h7, h8⟩
theorem Two.right {w0 w w' : World} {s t : Nat} {m n n' : List UInt8} (h : Two w0 w s t m n) (hg : w.grownBy w' (some t)) (hh : Holds w' t n') : Two w0 w' s t m n' := by
  obtain ⟨h1, h2, h3, h4, h5, h6, h7, h8⟩ := h
  exact ⟨below_grown_new h1 hg h6, h2.grown hg (by omega), h3.grown hg h7, hh, h5, h6, h7, h8⟩
theorem StrSlice.nil (w : World) : StrSlice w (.slice none 0 0) [] := ⟨none, 0, rfl, fun i hi => by simp at hi⟩

end Go.Proofs.YtaicjdjfhbmfeaaDoor
