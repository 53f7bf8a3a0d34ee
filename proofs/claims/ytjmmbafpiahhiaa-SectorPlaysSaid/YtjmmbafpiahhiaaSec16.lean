/-
  SectorSure: what is kept while lists grow; what a crash leaves alone.
-/
import Derived.Test.YtjmmbafpiahhiaaSec15
namespace Go.Proofs.Ytjmmbafpiahhiaa
open Go.RowKit Go.Maps Go.Sort Go.Shelf Crv

theorem row_crTo_other {bs : List UInt8} {du : Tab} {L : List Nat} {ch : List Int} {sz q : Nat} (hb : bs.length = 64 * sz) (hL : ∀ i ∈ L, i < sz ∧ ((du i).getD []).length = 64) (hq : q ∉ L) : ∀ j, j ≤ L.length → rowS (crTo bs du L ch j) q 1 = rowS bs q 1
  | 0, _ => rfl
  | j + 1, h => by
    have hm : L.getD j 0 ∈ L := by rw [List.getD_eq_getElem?_getD, List.getElem?_eq_getElem (by omega)]; exact List.getElem_mem _
    have hh := hL _ hm
    show rowS (tearS _ _ _ _) q 1 = _
    rw [row_tear_other (length_crTo hb hL j (by omega)) hh.1 hh.2 (keptS_le _ _) (fun e => hq (by rw [e]; exact hm)), row_crTo_other hb hL hq j (by omega)]
theorem Du.lens {D : DataW Unit} {du : Tab} {sz : Nat} (h : Du D du sz) : ∀ i ∈ looseL du sz, i < sz ∧ ((du i).getD []).length = 64 := fun i hi => by
  obtain ⟨h1, h2⟩ := mem_looseL.1 hi
  obtain ⟨l, hl⟩ := Option.isSome_iff_exists.1 h2
  exact ⟨h1, by rw [hl]; exact h.len i l hl⟩

/-- A disk, some lists of texts of one's own, and all that was there. -/
structure SureW (w0 : World) (fb cb mb db sz : Nat) (a : Bool) (k : Int) (bs : List UInt8) (n : Nat) (D : DataW Unit) (prot : List (Value × List (List UInt8))) (w : World) : Prop where
  dk : Dk w fb cb mb db sz a k bs n D
  own : ∀ p ∈ prot, Owns w w0.heap.size 9 p.1 (p.2.map tx)
  bel : Below w0.heap.size w0 w
/-- A list that may grow beside them. -/
def Av (w0 : World) (fb cb mb db : Nat) (prot : List (Value × List (List UInt8))) (o : Value) : Prop := ∀ g, o.ownBlock = some g → (g ∉ [fb, cb, mb] ∧ g ≠ db) ∧ (∀ p ∈ prot, p.1.ownBlock ≠ some g) ∧ w0.heap.size ≤ g
section
variable {w0 w w' : World} {fb cb mb db sz : Nat} {a : Bool} {k : Int} {bs : List UInt8} {n : Nat} {D : DataW Unit} {prot : List (Value × List (List UInt8))}
theorem SureW.below (h : SureW w0 fb cb mb db sz a k bs n D prot w) (hb : Below w.heap.size w w') : SureW w0 fb cb mb db sz a k bs n D prot w' :=
  ⟨h.dk.below hb, fun p hp => (h.own p hp).below hb, belowThen h.bel hb⟩
theorem SureW.new (h : SureW w0 fb cb mb db sz a k bs n D prot w) {o : Value} (ho : o.ownBlock = some w.heap.size) : Av w0 fb cb mb db prot o := fun g hg => by
  rw [ho] at hg
  injection hg with hg
  subst hg
  have h1 := h.dk.d.lt
  have h2 := h.dk.f.lt
  have h3 := h.dk.c.lt
  have h4 := h.dk.m.lt
  simp only [List.mem_cons, List.not_mem_nil, or_false, not_or]
  refine ⟨⟨⟨by omega, by omega, by omega⟩, by omega⟩, fun p hp e => ?_, h.bel.size⟩
  have := ((h.own p hp).lt _ e).1
  omega
theorem SureW.grow (h : SureW w0 fb cb mb db sz a k bs n D prot w) {o : Value} (hg : w.grownBy w' o.ownBlock) (hav : Av w0 fb cb mb db prot o) : SureW w0 fb cb mb db sz a k bs n D prot w' := by
  have key : ∀ i, i < w.heap.size → (∀ g, o.ownBlock = some g → g ≠ i) → w'.heap[i]? = w.heap[i]? := fun i hi hne => hg.block i hi (fun e => hne i e.symm rfl)
  have hon : Only o.ownBlock.toList w w' := ⟨⟨hg.os, hg.tape, hg.output, hg.size, fun i hi => by omega⟩, fun i hi hn => hg.block i hi (fun e => hn (by rw [← e]; simp))⟩
  have hnot : ∀ x, (∀ g, o.ownBlock = some g → g ≠ x) → x ∉ o.ownBlock.toList := fun x hx hm => by
    cases ho : o.ownBlock with
    | none => rw [ho] at hm; simp at hm
    | some g =>
      rw [ho] at hm
      simp at hm
      exact hx g ho hm.symm
  refine ⟨h.dk.only hon (hnot _ fun g e => (hav g e).1.2) (hnot _ fun g e he => (hav g e).1.1 (by rw [he]; simp)) (hnot _ fun g e he => (hav g e).1.1 (by rw [he]; simp)) (hnot _ fun g e he => (hav g e).1.1 (by rw [he]; simp)), fun p hp => ?_, ?_⟩
  · exact (h.own p hp).of_below (fun g hpg => key g ((h.own p hp).lt g hpg).1 (fun g' e he => (hav g' e).2.1 p hp (by rw [hpg, he])))
  · refine ⟨hg.os.trans h.bel.os, hg.tape.trans h.bel.tape, hg.output.trans h.bel.output, Nat.le_trans h.bel.size hg.size, fun i hi => (key i (Nat.lt_of_lt_of_le hi h.bel.size) (fun g e he => ?_)).trans (h.bel.block i hi)⟩
    have := (hav g e).2.2
    omega
theorem Av.step {o o' : Value} (h : SureW w0 fb cb mb db sz a k bs n D prot w) (hav : Av w0 fb cb mb db prot o) (hat : o'.ownBlock = o.ownBlock ∨ o'.ownBlock = some w.heap.size) : Av w0 fb cb mb db prot o' := by
  rcases hat with e | e
  · intro g hg
    exact hav g (by rw [← e]; exact hg)
  · exact h.new e
theorem SureW.cons (h : SureW w0 fb cb mb db sz a k bs n D prot w) {o : Value} {ls : List (List UInt8)} (ho : Owns w w0.heap.size 9 o (ls.map tx)) : SureW w0 fb cb mb db sz a k bs n D ((o, ls) :: prot) w :=
  ⟨h.dk, fun p hp => by
    rcases List.mem_cons.1 hp with rfl | hp
    · exact ho
    · exact h.own p hp, h.bel⟩
theorem owns_base {w : World} {B B' : Nat} {e : TypeId} {v : Value} {xs : List Value} (h : Owns w B e v xs) (hb : B' ≤ B) : Owns w B' e v xs := by
  obtain ⟨h1, h2⟩ := h
  refine ⟨h1, ?_⟩
  rcases h2 with h3 | ⟨g, cap, cur, h3, h4, h5⟩
  · exact .inl h3
  · exact .inr ⟨g, cap, cur, h3, Nat.le_trans hb h4, h5⟩
end
theorem cutL_le {m : Nat} {ls : List (List UInt8)} : ∀ l ∈ cutL m ls, l.length ≤ m := by
  intro l hl
  obtain ⟨x, _, rfl⟩ := List.mem_map.1 hl
  rw [List.length_take]
  omega
end Go.Proofs.Ytjmmbafpiahhiaa
