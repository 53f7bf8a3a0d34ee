/-
  Package weave: what giveNode's range keeps.
-/
import Derived.Test.YtjdhcanblpifcaaDoorWea6
import Derived.Test.YtjdhcanblpifcaaDoorRngB
namespace Go.Proofs.YtjdhcanblpifcaaDoor
open Go.RowKit Crv
theorem Owns.keptC {W W' : World} {base : Nat} {e : TypeId} {v : Value} {xs : List Value} (h : Owns W base e v xs) (hk : ∀ (k : Nat) (cs : Array Value) (t : TypeId) (fr : Nat × Nat), W.heap[k]? = some (Obj.cells cs t fr) → W'.heap[k]? = some (Obj.cells cs t fr)) : Owns W' base e v xs := h.of_below fun b hb => by
  rcases h.2 with ⟨hv, _⟩ | ⟨g, cap, cur, hv, _, hm, _⟩
  · rw [hv] at hb; cases hb
  · rw [hv] at hb
    injection hb with hb
    subst hb
    rw [hm]
    exact hk _ _ _ _ hm
/-- What the range over a node's parts keeps. -/
def NI (W : World) (wb base g cap b7 b8 : Nat) (vt : Value) (pl : Int) (v : Value) (ps : List Pt) (rest : List Stp) (out : List UInt8) (got : Nat) (pre : List (Nat × Pt)) (w' : World) : Prop :=
  (∃ vp, Wv w' wb base vp vt ((pre.map fun x => (x.2, pl - 1)).reverse ++ rest, out, got + 1) ∧ ∀ r, vp.ownBlock = some r → r = g ∨ W.heap.size ≤ r) ∧
    Mem w' W.heap.size Tpw [ptr wb] ∧ Mem w' b7 Tnd [.int .i64 pl, v] ∧ Mem w' b8 Tsp [v] ∧ Rw w' (W.heap.size + 1 + 1) Tpt 33 v (ps.map ptC) ∧ Fr base wb (.slice (some ⟨g, 0, none⟩) (rest.length + 1) cap) vt W w'
theorem NI.below {W : World} {wb base g cap b7 b8 : Nat} {vt : Value} {pl : Int} {v : Value} {ps : List Pt} {rest : List Stp} {out : List UInt8} {got : Nat} {pre : List (Nat × Pt)} {A B : World} (h : NI W wb base g cap b7 b8 vt pl v ps rest out got pre A) (hbs : base ≤ W.heap.size) (hb : Below A.heap.size A B) : NI W wb base g cap b7 b8 vt pl v ps rest out got pre B := by
  obtain ⟨⟨vp, h1, h2⟩, h3, h4, h5, h6, h7⟩ := h
  exact ⟨⟨vp, h1.below hb, h2⟩, h3.below hb h3.lt, h4.below hb h4.lt, h5.below hb h5.lt, h6.below hb, h7.below hbs hb⟩
theorem NI.own {W : World} {wb base g cap b7 b8 N0 : Nat} {vt : Value} {pl : Int} {v : Value} {ps : List Pt} {rest : List Stp} {out : List UInt8} {got : Nat} (hbs : base ≤ W.heap.size) (hN : W.heap.size ≤ N0) : OwnFrom N0 (NI W wb base g cap b7 b8 vt pl v ps rest out got) := by
  rintro s A B row ⟨⟨vp, h1, h2⟩, h3, h4, h5, h6, h7⟩ hg hr
  have hk := cells_kept hg (fun r e => (hr r e).2)
  refine ⟨⟨vp, ⟨hk _ _ _ _ h1.1, h1.2.1, h1.2.2.1.kept hk, Owns.keptC h1.2.2.2 hk⟩, h2⟩, hk _ _ _ _ h3, hk _ _ _ _ h4, hk _ _ _ _ h5, h6.kept hk, h7.grown hbs hg (fun r e => ?_)⟩
  have := (hr r e).1
  exact ⟨by omega, .inr (.inr (.inr (by omega)))⟩
theorem NI.kp {W : World} {wb base g cap b7 b8 g3 cv : Nat} {vt : Value} {pl : Int} {ps : List Pt} {rest : List Stp} {out : List UInt8} {got : Nat} {pre : List (Nat × Pt)} {A B : World} (h : NI W wb base g cap b7 b8 vt pl (.slice (some ⟨g3, 0, none⟩) ps.length cv) ps rest out got pre A) (hb : Below A.heap.size A B) : BwKp b8 g3 A B := by
  obtain ⟨_, _, _, h5, h6, _⟩ := h
  exact ⟨fun cs t fr ho => (hb.block b8 h5.lt).trans ho, hb.block g3 (h6.lt g3 rfl).1⟩
/-- A block of another type than a weave's own is none of them. -/
theorem Mem.ne_own {W : World} {wb base b : Nat} {vp vt : Value} {x : WSt} {t : TypeId} {cs : List Value} (h : Wv W wb base vp vt x) (hm : Mem W b t cs) (h1 : t ≠ Tpd) (h2 : t ≠ Twv) : b ≠ wb ∧ vp.ownBlock ≠ some b := by
  refine ⟨fun e => ?_, fun e => ?_⟩
  · subst e
    have hq : some (Obj.cells cs.toArray t (0, 0)) = some (Obj.cells _ Twv (0, 0)) := (show W.heap[b]? = _ from hm).symm.trans h.1
    injection hq with hq
    injection hq with _ hq
    exact h2 hq
  · obtain ⟨c2, ht⟩ := h.2.2.1.tag b e
    rw [show W.heap[b]? = some (Obj.cells cs.toArray t (0, 0)) from hm] at ht
    injection ht with ht
    injection ht with _ ht
    exact h1 ht
theorem Rw.ne_own {W : World} {wb base b2 : Nat} {vp vt : Value} {x : WSt} {t : TypeId} {m : Nat} {v : Value} {xs : List (List Value)} (h : Wv W wb base vp vt x) (hm : Rw W b2 t m v xs) (h1 : t ≠ Tpd) (h2 : t ≠ Twv) : ∀ b, v.ownBlock = some b → b ≠ wb ∧ vp.ownBlock ≠ some b := by
  intro b hb
  obtain ⟨cs, ht⟩ := hm.tag b hb
  refine ⟨fun e => ?_, fun e => ?_⟩
  · subst e
    rw [show W.heap[b]? = some (Obj.cells _ Twv (0, 0)) from h.1] at ht
    injection ht with ht
    injection ht with _ ht
    exact h2 ht.symm
  · obtain ⟨c2, ht2⟩ := h.2.2.1.tag b e
    rw [ht] at ht2
    injection ht2 with ht2
    injection ht2 with _ ht2
    exact h1 ht2
/-- One part more. -/
theorem NI.step {W : World} {wb base g cap b7 b8 g3 cv : Nat} {vt : Value} {pl : Int} {ps : List Pt} {rest : List Stp} {out : List UInt8} {got : Nat} {pre : List (Nat × Pt)} {i : Nat} {p : Pt} {A B : World} {vp vp' : Value} (hbs : base ≤ W.heap.size) (hA : W.heap.size ≤ A.heap.size)
    (hw : Wv A wb base vp vt ((pre.map fun x => (x.2, pl - 1)).reverse ++ rest, out, got + 1)) (hrow : ∀ r, vp.ownBlock = some r → r = g ∨ W.heap.size ≤ r)
    (h3 : Mem A W.heap.size Tpw [ptr wb]) (h4 : Mem A b7 Tnd [.int .i64 pl, .slice (some ⟨g3, 0, none⟩) ps.length cv]) (h5 : Mem A b8 Tsp [.slice (some ⟨g3, 0, none⟩) ps.length cv]) (h6 : Rw A (W.heap.size + 1 + 1) Tpt 33 (.slice (some ⟨g3, 0, none⟩) ps.length cv) (ps.map ptC)) (h7 : Fr base wb (.slice (some ⟨g, 0, none⟩) (rest.length + 1) cap) vt W A)
    (hr : Rw B base Tpd 35 vp' ((((pre.map fun x => (x.2, pl - 1)).reverse ++ rest).reverse.map pdC) ++ [pdC (p, pl - 1)])) (hg : A.grownBy B vp.ownBlock) (hat : vp'.ownBlock = vp.ownBlock ∨ vp'.ownBlock = some A.heap.size) :
    NI W wb base g cap b7 b8 vt pl (.slice (some ⟨g3, 0, none⟩) ps.length cv) ps rest out got (pre ++ [(i, p)]) (B.setCell ⟨wb, 0, none⟩ vp') ∧ BwKp b8 g3 A (B.setCell ⟨wb, 0, none⟩ vp') := by
  have n3 := Mem.ne_own hw h3 (by decide) (by decide)
  have n4 := Mem.ne_own hw h4 (by decide) (by decide)
  have n5 := Mem.ne_own hw h5 (by decide) (by decide)
  have n6 := Rw.ne_own hw h6 (by decide) (by decide)
  have nwb : vp.ownBlock ≠ some wb := fun e => (hw.row_ne wb e).1 rfl
  have key : ∀ b, b < A.heap.size → b ≠ wb → vp.ownBlock ≠ some b → (B.setCell ⟨wb, 0, none⟩ vp').heap[b]? = A.heap[b]? := fun b hb h1 h2 => (heap_set_ne (by simpa using h1)).trans (hg.block b hb (fun e => h2 e.symm))
  have hmB : Mem B wb Twv [vp, .int .i64 ((got + 1 : Nat) : Int), vt] := by
    have := hg.block wb hw.1.lt (fun e => nwb e.symm)
    exact (show B.heap[wb]? = _ from this.trans hw.1)
  refine ⟨⟨⟨vp', ⟨?_, hw.2.1, ?_, ?_⟩, ?_⟩, ?_, ?_, ?_, ?_, ?_⟩, ?_, ?_⟩
  · have := hmB.set 0 vp'
    simpa using this
  · have e : ((((pre ++ [(i, p)]).map fun x => (x.2, pl - 1)).reverse ++ rest).reverse.map pdC) = ((((pre.map fun x => (x.2, pl - 1)).reverse ++ rest).reverse.map pdC) ++ [pdC (p, pl - 1)]) := by simp
    rw [e]
    refine hr.of_block fun b hb => heap_set_ne ?_
    obtain ⟨cs, ht⟩ := hr.tag b hb
    intro eq
    have eq' : b = wb := eq
    subst eq'
    rw [show B.heap[b]? = some (Obj.cells _ Twv (0, 0)) from hmB] at ht
    injection ht with ht
    injection ht with _ ht
    exact absurd ht (by decide)
  · refine hw.2.2.2.of_below fun b hb => key b (hw.2.2.2.lt b hb).1 (hw.text_ne b hb) (fun e => (hw.row_ne b e).2 hb)
  · intro r hr'
    rcases hat with e | e
    · exact hrow r (e ▸ hr')
    · rw [e] at hr'
      injection hr' with hr'
      exact .inr (by omega)
  · exact (key _ h3.lt n3.1 n3.2).trans h3
  · exact (key _ h4.lt n4.1 n4.2).trans h4
  · exact (key _ h5.lt n5.1 n5.2).trans h5
  · exact h6.of_block fun b hb => key b (h6.lt b hb).1 (n6 b hb).1 (n6 b hb).2
  · refine (h7.grown hbs hg (fun r e => ?_)).grown hbs (grown_cell (grownRefl B (some wb)) 0 vp') (fun r e => by injection e with e; subst e; exact ⟨hw.2.1, .inl rfl⟩)
    refine ⟨(hw.2.2.1.lt r e).2, ?_⟩
    rcases hrow r e with h | h
    · exact .inr (.inl (by rw [h]; rfl))
    · exact .inr (.inr (.inr h))
  · intro cs t fr ho
    exact (key _ h5.lt n5.1 n5.2).trans ho
  · exact key g3 (h6.lt g3 rfl).1 (n6 g3 rfl).1 (n6 g3 rfl).2
theorem keeps_step {A B : World} {wb base N : Nat} {vp vt vp' : Value} {x : WSt} (hw : Wv A wb base vp vt x) (hg : A.grownBy B vp.ownBlock) : KeepsFrom N A (B.setCell ⟨wb, 0, none⟩ vp') := ⟨by have := hg.size; simpa using this, fun k o _ ho hc => by
  have h1 : k ≠ wb := fun e => by
    subst e
    rw [show A.heap[k]? = some (Obj.cells _ Twv (0, 0)) from hw.1] at ho
    cases ho
    cases hc
  have h2 : vp.ownBlock ≠ some k := fun e => by
    obtain ⟨cs, ht⟩ := hw.2.2.1.tag k e
    rw [ho] at ht
    cases ht
    cases hc
  exact ((heap_set_ne (by simpa using h1)).trans (hg.block k (Array.getElem?_eq_some_iff.1 ho).1 (fun e => h2 e.symm))).trans ho⟩
end Go.Proofs.YtjdhcanblpifcaaDoor
