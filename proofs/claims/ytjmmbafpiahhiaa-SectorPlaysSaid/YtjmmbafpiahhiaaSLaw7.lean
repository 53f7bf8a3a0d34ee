/-
  SectorPlays: what a call of Does keeps.
-/
import Derived.Test.YtjmmbafpiahhiaaSLaw6
namespace Go.Proofs.Ytjmmbafpiahhiaa
open Go.RowKit Go.Maps Go.Sort Go.Shelf Crv
abbrev TAc : TypeId := 35
/-- The cells of a call. -/
abbrev acC (ki at_ n : Int) (ta : Option Addr) (tn tc : Nat) (ca : Option Addr) (cn cc : Nat) (b : UInt8) : List Value := [.int .i64 ki, .int .i64 at_, .int .i64 n, .slice ta tn tc, .slice ca cn cc, .int .u8 (b.toNat : Int)]
/-- The boxes of Does: the document's disk, the call, the result. -/
structure Dx (w0 W : World) (x ac r : List Value) : Prop where
  x : Mem W w0.heap.size TRd x
  c : Mem W (w0.heap.size + 1) TAc ac
  r : Mem W (w0.heap.size + 1 + 1) TRd r
theorem Dx.new (w : World) (x ac r : List Value) : Dx w (((w.alloc (.cells x.toArray TRd)).alloc (.cells ac.toArray TAc)).alloc (.cells r.toArray TRd)) x ac r :=
  ⟨((Mem.new w TRd x).alloc _).alloc _, (Mem.newAt _ TAc ac (by simp)).alloc _, Mem.newAt _ TRd r (by simp)⟩
theorem Dx.only {w0 W W' : World} {x ac r : List Value} {S : List Nat} (h : Dx w0 W x ac r) (ho : Only S W W') (hS : ∀ i ∈ S, i < w0.heap.size) : Dx w0 W' x ac r :=
  ⟨ho.mem h.x (fun e => by have := hS _ e; omega), ho.mem h.c (fun e => by have := hS _ e; omega), ho.mem h.r (fun e => by have := hS _ e; omega)⟩
theorem Dx.below {w0 W W' : World} {x ac r : List Value} (h : Dx w0 W x ac r) (hb : Below W.heap.size W W') : Dx w0 W' x ac r :=
  ⟨h.x.below hb h.x.lt, h.c.below hb h.c.lt, h.r.below hb h.r.lt⟩
theorem mem6 {w : World} {g : Nat} {t : TypeId} {x0 x1 x2 x3 x4 x5 : Value} (h : Mem w g t [x0, x1, x2, x3, x4, x5]) : w.cell? ⟨g, 0, none⟩ = some x0 ∧ w.cell? ⟨g, 1, none⟩ = some x1 ∧ w.cell? ⟨g, 2, none⟩ = some x2 ∧ w.cell? ⟨g, 3, none⟩ = some x3 ∧ w.cell? ⟨g, 4, none⟩ = some x4 ∧ w.cell? ⟨g, 5, none⟩ = some x5 :=
  ⟨h.cell 0, h.cell 1, h.cell 2, h.cell 3, h.cell 4, h.cell 5⟩
/-- A disk and the document's, and what has turned since. -/
structure St (w0 : World) (fb cb mb db sz : Nat) (a : Bool) (k : Int) (bs : List UInt8) (n : Nat) (D : DataW Unit) (du : Tab) (v : Value) (W : World) : Prop where
  dk : Dk W fb cb mb db sz a k bs n D
  rf : Rf W v sz bs du (fuseF a k)
  on : Only [fb, cb, mb] w0 W
section
variable {w0 W W' : World} {fb cb mb db sz : Nat} {a : Bool} {k : Int} {bs : List UInt8} {n : Nat} {D : DataW Unit} {du : Tab} {v : Value}
theorem St.below (h : St w0 fb cb mb db sz a k bs n D du v W) (hb : Below W.heap.size W W') : St w0 fb cb mb db sz a k bs n D du v W' :=
  ⟨h.dk.below hb, h.rf.below hb, h.on.trans (Only.of_below hb)⟩
theorem own_cellG {g i B : Nat} {T : TypeId} {u v : Value} {xs cs : List Value} (h : Owns W B T v xs) (hm : Mem W g TRd cs) (hT : TRd ≠ T) : Owns (W.setCell ⟨g, i, none⟩ u) B T v xs :=
  h.of_below fun b hb => Below.heap_setCell _ _ _ _ (fun e => by
    obtain ⟨c', ht⟩ := own_tag h b hb
    exact tag_not hm ht hT e)
theorem St.cell {g i : Nat} {u : Value} {cs : List Value} (h : St w0 fb cb mb db sz a k bs n D du v W) (hm : Mem W g TRd cs) (hg : w0.heap.size ≤ g) : St w0 fb cb mb db sz a k bs n D du v (W.setCell ⟨g, i, none⟩ u) := by
  have nd : db ≠ g := h.dk.d.ne hm (by decide)
  have nf : fb ≠ g := h.dk.f.ne hm (by decide)
  have nc : cb ≠ g := h.dk.c.ne hm (by decide)
  have nm : g ≠ mb := hm.ne_map h.dk.m
  obtain ⟨aS, aN, aL, cS, cN, cL, h1, h2, h3, h4⟩ := h.rf
  refine ⟨⟨h.dk.d.other (by simpa using nd) _, h.dk.f.other (by simpa using nf) _, h.dk.c.other (by simpa using nc) _, h.dk.m.setCell (by simpa using nm.symm) _, h.dk.len, h.dk.most, h.dk.kin⟩, ⟨aS, aN, aL, cS, cN, cL, h1, own_cellG h2 hm (by decide), own_cellG h3 hm (by decide), own_cellG h4 hm (by decide)⟩, ⟨⟨h.on.1.os, h.on.1.tape, h.on.1.output, by simpa [World.setCell] using h.on.1.size, fun i hi => by omega⟩, fun j hj hn => (Below.heap_setCell _ _ _ _ (fun e => by have e' : j = g := e; omega)).trans (h.on.2 j hj hn)⟩⟩
theorem St.put4 {g : Nat} {x0 x1 x2 x3 : Value} (h : St w0 fb cb mb db sz a k bs n D du v W) (hm : Mem W g TRd [x0, x1, x2, x3]) (hg : w0.heap.size ≤ g) (y0 y1 y2 y3 : Value) : St w0 fb cb mb db sz a k bs n D du v ((((W.setCell ⟨g, 0, none⟩ y0).setCell ⟨g, 1, none⟩ y1).setCell ⟨g, 2, none⟩ y2).setCell ⟨g, 3, none⟩ y3) :=
  (((h.cell hm hg).cell (hm.set 0 _) hg).cell ((hm.set 0 _).set 1 _) hg).cell (((hm.set 0 _).set 1 _).set 2 _) hg
/-- What Does answers. -/
def DoesP (w : World) (fb cb mb db sz n : Nat) (e : Ending) (w' : World) : Prop := ∃ v' a' k' bs' n' D' du', e = .returned (.tuple #[v', .bool true]) ∧ St w fb cb mb db sz a' k' bs' n' D' du' v' w' ∧ Du D' du' sz ∧ (a' = false → k' = 0) ∧ n' ≤ n + 7
end
end Go.Proofs.Ytjmmbafpiahhiaa
