/-
  SectorPlays: the calls, and what a round keeps.
-/
import Derived.Test.YtjmmbafpiahhiaaSLaw9
namespace Go.Proofs.Ytjmmbafpiahhiaa
open Go.RowKit Go.Maps Go.Sort Go.Shelf Crv
structure ActC where
  (ki at_ nn : Int) (ta : Option Addr) (tn tc : Nat) (ca : Option Addr) (cn cc : Nat) (b : UInt8)
abbrev ActC.cells (x : ActC) : List Value := acC x.ki x.at_ x.nn x.ta x.tn x.tc x.ca x.cn x.cc x.b
structure ActOk (w : World) (x : ActC) : Prop where
  at_ : x.at_ ≤ 9223372036854775807
  nn : x.nn ≤ 9223372036854775807
  tx : ∃ ls, Txs w (.slice x.ta x.tn x.tc) ls ∧ ls.length ≤ 9223372036854775807
  zs : ∃ ch, Zs w (.slice x.ca x.cn x.cc) ch ∧ ch.length ≤ 9223372036854775807
/-- A list of calls. -/
def Acts (w : World) (v : Value) (n : Nat) (f : Nat → ActC) : Prop := ∃ a cap, v = .slice a n cap ∧ ∀ i, i < n → ∃ b off, a = some ⟨b, off, none⟩ ∧ w.rangeAt b (off + i * 6) (f i).cells ∧ ActOk w (f i)
theorem range_below {w w' : World} {b o : Nat} {cs : List Value} (h : w.rangeAt b o cs) (hb : Below w.heap.size w w') : w'.rangeAt b o cs := fun j v hv => by
  have h1 := h j v hv
  exact (hb.cell (World.block_lt_of_cell? w _ h1)).trans h1
theorem zs_low {w : World} {v : Value} {ch : List Int} (h : Zs w v ch) : ch ≠ [] → ∀ g, v.ownBlock = some g → g < w.heap.size := fun hne g hg => by
  obtain ⟨ad, cap, rfl, hc⟩ := h
  cases ch with
  | nil => exact absurd rfl hne
  | cons c r =>
    obtain ⟨b, off, ha, hcell⟩ := hc 0 (by simp)
    subst ha
    injection hg with hg
    subst hg
    exact World.block_lt_of_cell? w _ hcell
/-- What a round keeps. -/
structure PlW (w : World) (fb cb mb db X sz : Nat) (a : Bool) (k : Int) (bs : List UInt8) (n : Nat) (D : DataW Unit) (du : Tab) (a1 a2 a3 : Option Addr) (c1 c2 c3 : Nat) (W : World) : Prop where
  dk : Dk W fb cb mb db sz a k bs n D
  rf : Rf W (.agg (rdC a1 a2 a3 c1 c2 c3 sz (fuseF a k)).toArray) sz bs du (fuseF a k)
  du : Du D du sz
  h0 : a = false → k = 0
  x : Mem W X TRd (rdC a1 a2 a3 c1 c2 c3 sz (fuseF a k))
  bel : Below w.heap.size w W
  low : w.heap.size ≤ fb ∧ w.heap.size ≤ cb ∧ w.heap.size ≤ mb ∧ w.heap.size ≤ X
section
variable {w W W' : World} {fb cb mb db X sz : Nat} {a a' : Bool} {k k' : Int} {bs bs' : List UInt8} {n n' : Nat} {D D' : DataW Unit} {du du' : Tab} {a1 a2 a3 b1 b2 b3 : Option Addr} {c1 c2 c3 d1 d2 d3 : Nat}
theorem PlW.below (h : PlW w fb cb mb db X sz a k bs n D du a1 a2 a3 c1 c2 c3 W) (hb : Below W.heap.size W W') : PlW w fb cb mb db X sz a k bs n D du a1 a2 a3 c1 c2 c3 W' :=
  ⟨h.dk.below hb, h.rf.below hb, h.du, h.h0, h.x.below hb h.x.lt, belowThen h.bel hb, h.low⟩
/-- Behind a call of Does: the disks, the old box, the new value. -/
structure PlV (w : World) (fb cb mb db X sz : Nat) (a : Bool) (k : Int) (bs : List UInt8) (n : Nat) (D : DataW Unit) (du : Tab) (b1 b2 b3 : Option Addr) (d1 d2 d3 : Nat) (xc : List Value) (W : World) : Prop where
  dk : Dk W fb cb mb db sz a k bs n D
  rf : Rf W (.agg (rdC b1 b2 b3 d1 d2 d3 sz (fuseF a k)).toArray) sz bs du (fuseF a k)
  du : Du D du sz
  h0 : a = false → k = 0
  x : Mem W X TRd xc
  bel : Below w.heap.size w W
  low : w.heap.size ≤ fb ∧ w.heap.size ≤ cb ∧ w.heap.size ≤ mb ∧ w.heap.size ≤ X
theorem PlV.below {xc : List Value} (h : PlV w fb cb mb db X sz a k bs n D du a1 a2 a3 c1 c2 c3 xc W) (hb : Below W.heap.size W W') : PlV w fb cb mb db X sz a k bs n D du a1 a2 a3 c1 c2 c3 xc W' :=
  ⟨h.dk.below hb, h.rf.below hb, h.du, h.h0, h.x.below hb h.x.lt, belowThen h.bel hb, h.low⟩
theorem only_base (hb : Below w.heap.size w W) (ho : Only [fb, cb, mb] W W') (hf : w.heap.size ≤ fb) (hc : w.heap.size ≤ cb) (hm : w.heap.size ≤ mb) : Below w.heap.size w W' :=
  ⟨ho.1.os.trans hb.os, ho.1.tape.trans hb.tape, ho.1.output.trans hb.output, Nat.le_trans hb.size ho.1.size, fun i hi => (ho.2 i (Nat.lt_of_lt_of_le hi hb.size) (by simp only [List.mem_cons, List.not_mem_nil, or_false, not_or]; omega)).trans (hb.block i hi)⟩
theorem PlW.does (h : PlW w fb cb mb db X sz a k bs n D du a1 a2 a3 c1 c2 c3 W) (hs : St W fb cb mb db sz a' k' bs' n' D' du' (.agg (rdC b1 b2 b3 d1 d2 d3 sz (fuseF a' k')).toArray) W') (hd : Du D' du' sz) (h0 : a' = false → k' = 0) : PlV w fb cb mb db X sz a' k' bs' n' D' du' b1 b2 b3 d1 d2 d3 (rdC a1 a2 a3 c1 c2 c3 sz (fuseF a k)) W' := by
  have nf : fb ≠ X := h.dk.f.ne h.x (by decide)
  have nc : cb ≠ X := h.dk.c.ne h.x (by decide)
  have nm : X ≠ mb := h.x.ne_map h.dk.m
  exact ⟨hs.dk, hs.rf, hd, h0, hs.on.mem h.x (by simp only [List.mem_cons, List.not_mem_nil, or_false, not_or]; exact ⟨nf.symm, nc.symm, nm⟩), only_base h.bel hs.on h.low.1 h.low.2.1 h.low.2.2.1, h.low⟩
/-- The new value stands in the old box. -/
theorem PlV.put {x0 x1 x2 x3 : Value} (h : PlV w fb cb mb db X sz a k bs n D du b1 b2 b3 d1 d2 d3 [x0, x1, x2, x3] W) : PlW w fb cb mb db X sz a k bs n D du b1 b2 b3 d1 d2 d3 ((((W.setCell ⟨X, 0, none⟩ (.slice b1 sz d1)).setCell ⟨X, 1, none⟩ (.slice b2 sz d2)).setCell ⟨X, 2, none⟩ (.slice b3 sz d3)).setCell ⟨X, 3, none⟩ (.int .i64 (fuseF a k))) := by
  have hx := h.x
  have nd : db ≠ X := h.dk.d.ne hx (by decide)
  have nf : fb ≠ X := h.dk.f.ne hx (by decide)
  have nc : cb ≠ X := h.dk.c.ne hx (by decide)
  have nm : X ≠ mb := hx.ne_map h.dk.m
  have one : ∀ (W : World) (cs : List Value) (i : Nat) (u : Value), Mem W X TRd cs → Dk W fb cb mb db sz a k bs n D → Rf W (.agg (rdC b1 b2 b3 d1 d2 d3 sz (fuseF a k)).toArray) sz bs du (fuseF a k) → Below w.heap.size w W → Dk (W.setCell ⟨X, i, none⟩ u) fb cb mb db sz a k bs n D ∧ Rf (W.setCell ⟨X, i, none⟩ u) (.agg (rdC b1 b2 b3 d1 d2 d3 sz (fuseF a k)).toArray) sz bs du (fuseF a k) ∧ Below w.heap.size w (W.setCell ⟨X, i, none⟩ u) ∧ Mem (W.setCell ⟨X, i, none⟩ u) X TRd (cs.set i u) := fun W cs i u hm hk hr hb => by
    obtain ⟨aS, aN, aL, cS, cN, cL, h1, h2, h3, h4⟩ := hr
    exact ⟨⟨hk.d.other (by simpa using nd) _, hk.f.other (by simpa using nf) _, hk.c.other (by simpa using nc) _, hk.m.setCell (by simpa using nm.symm) _, hk.len, hk.most, hk.kin⟩, ⟨aS, aN, aL, cS, cN, cL, h1, own_cellG h2 hm (by decide), own_cellG h3 hm (by decide), own_cellG h4 hm (by decide)⟩, below_cell hb h.low.2.2.2 _ _, hm.set i u⟩
  obtain ⟨e1, e2, e3, e4⟩ := one _ _ 0 (.slice b1 sz d1) hx h.dk h.rf h.bel
  obtain ⟨e1, e2, e3, e4⟩ := one _ _ 1 (.slice b2 sz d2) e4 e1 e2 e3
  obtain ⟨e1, e2, e3, e4⟩ := one _ _ 2 (.slice b3 sz d3) e4 e1 e2 e3
  obtain ⟨e1, e2, e3, e4⟩ := one _ _ 3 (.int .i64 (fuseF a k)) e4 e1 e2 e3
  exact ⟨e1, e2, h.du, h.h0, e4, e3, h.low⟩
theorem three_cell {Y i : Nat} {u v : Value} {cs : List Value} {f : Int} (hk : Dk W fb cb mb db sz a k bs n D) (hr : Rf W v sz bs du f) (hb : Below w.heap.size w W) (hm : Mem W Y TRd cs) (hY : w.heap.size ≤ Y) : Dk (W.setCell ⟨Y, i, none⟩ u) fb cb mb db sz a k bs n D ∧ Rf (W.setCell ⟨Y, i, none⟩ u) v sz bs du f ∧ Below w.heap.size w (W.setCell ⟨Y, i, none⟩ u) := by
  have nd : db ≠ Y := hk.d.ne hm (by decide)
  have nf : fb ≠ Y := hk.f.ne hm (by decide)
  have nc : cb ≠ Y := hk.c.ne hm (by decide)
  have nm : Y ≠ mb := hm.ne_map hk.m
  obtain ⟨aS, aN, aL, cS, cN, cL, h1, h2, h3, h4⟩ := hr
  exact ⟨⟨hk.d.other (by simpa using nd) _, hk.f.other (by simpa using nf) _, hk.c.other (by simpa using nc) _, hk.m.setCell (by simpa using nm.symm) _, hk.len, hk.most, hk.kin⟩, ⟨aS, aN, aL, cS, cN, cL, h1, own_cellG h2 hm (by decide), own_cellG h3 hm (by decide), own_cellG h4 hm (by decide)⟩, below_cell hb hY _ _⟩
theorem PlV.cell {Y i : Nat} {u : Value} {xc cs : List Value} (h : PlV w fb cb mb db X sz a k bs n D du b1 b2 b3 d1 d2 d3 xc W) (hm : Mem W Y TRd cs) (hY : w.heap.size ≤ Y) (hne : X ≠ Y) : PlV w fb cb mb db X sz a k bs n D du b1 b2 b3 d1 d2 d3 xc (W.setCell ⟨Y, i, none⟩ u) := by
  obtain ⟨e1, e2, e3⟩ := three_cell (i := i) (u := u) h.dk h.rf h.bel hm hY
  exact ⟨e1, e2, h.du, h.h0, h.x.other hne _, e3, h.low⟩
theorem PlV.put4 {Y : Nat} {x0 x1 x2 x3 : Value} {xc : List Value} (h : PlV w fb cb mb db X sz a k bs n D du b1 b2 b3 d1 d2 d3 xc W) (hm : Mem W Y TRd [x0, x1, x2, x3]) (hY : w.heap.size ≤ Y) (hne : X ≠ Y) (y0 y1 y2 y3 : Value) : PlV w fb cb mb db X sz a k bs n D du b1 b2 b3 d1 d2 d3 xc ((((W.setCell ⟨Y, 0, none⟩ y0).setCell ⟨Y, 1, none⟩ y1).setCell ⟨Y, 2, none⟩ y2).setCell ⟨Y, 3, none⟩ y3) :=
  (((h.cell hm hY hne).cell (hm.set 0 _) hY hne).cell ((hm.set 0 _).set 1 _) hY hne).cell (((hm.set 0 _).set 1 _).set 2 _) hY hne
/-- A call of Does. -/
theorem PlW.call {x : ActC} (h : PlW w fb cb mb db X sz a k bs n D du a1 a2 a3 c1 c2 c3 W) (hok : ActOk w x) (hn : n ≤ 900000) :
    Calls Try.prog 12 #[ptr db, .agg (rdC a1 a2 a3 c1 c2 c3 sz (fuseF a k)).toArray, .agg x.cells.toArray] W fun e W' => ∃ a' k' bs' n' D' du' b1 b2 b3 d1 d2 d3, e = .returned (.tuple #[.agg (rdC b1 b2 b3 d1 d2 d3 sz (fuseF a' k')).toArray, .bool true]) ∧ n' ≤ n + 7 ∧ PlV w fb cb mb db X sz a' k' bs' n' D' du' b1 b2 b3 d1 d2 d3 (rdC a1 a2 a3 c1 c2 c3 sz (fuseF a k)) W' ∧ Only [fb, cb, mb] W W' := by
  obtain ⟨ls, ht, hl⟩ := hok.tx
  obtain ⟨ch, hz, hc⟩ := hok.zs
  have hlow := h.low
  refine (does_any x.ki x.at_ x.nn x.ta x.tn x.tc x.ca x.cn x.cc x.b ls ch h.dk h.rf h.du h.h0 hn hok.at_ hok.nn (ht.below h.bel) hl (szs_below hz h.bel) hc (fun hne g hg => ?_)).mono ?_
  · have := zs_low hz hne g hg
    simp only [List.mem_cons, List.not_mem_nil, or_false, not_or]
    omega
  · rintro e W' ⟨v', a', k', bs', n', D', du', rfl, hst, hdu, h0, hn'⟩
    have hr := hst.rf
    obtain ⟨b1, b2, b3, d1, d2, d3, rfl, -, -, -⟩ := hr
    exact ⟨a', k', bs', n', D', du', b1, b2, b3, d1, d2, d3, rfl, hn', h.does hst hdu h0, hst.on⟩
theorem PlV.sput {Y : Nat} {cs : List Value} (h : Dk W fb cb mb db sz a k bs n D) (ho : Only [fb, cb, mb] W W') (hm : Mem W Y TRd cs) : Mem W' Y TRd cs := by
  have nf : fb ≠ Y := h.f.ne hm (by decide)
  have nc : cb ≠ Y := h.c.ne hm (by decide)
  have nm : Y ≠ mb := hm.ne_map h.m
  exact ho.mem hm (by simp only [List.mem_cons, List.not_mem_nil, or_false, not_or]; exact ⟨nf.symm, nc.symm, nm⟩)
theorem PlW.turn (h : PlW w fb cb mb db X sz a k bs n D du a1 a2 a3 c1 c2 c3 W) (hd : Dk W' fb cb mb db sz a k bs n D) (ho : Only [fb, cb, mb] W W') : PlW w fb cb mb db X sz a k bs n D du a1 a2 a3 c1 c2 c3 W' :=
  ⟨hd, h.rf.only h.dk ho, h.du, h.h0, PlV.sput h.dk ho h.x, only_base h.bel ho h.low.1 h.low.2.1 h.low.2.2.1, h.low⟩
theorem PlW.cleared (h : PlW w fb cb mb db X sz a k bs n D du a1 a2 a3 c1 c2 c3 W) (hd : Dk W' fb cb mb db sz false 0 bs n D) (ho : Only [fb, cb, mb] W W') : PlV w fb cb mb db X sz false 0 bs n D du a1 a2 a3 c1 c2 c3 (rdC a1 a2 a3 c1 c2 c3 sz (fuseF a k)) W' :=
  ⟨hd, (h.rf.only h.dk ho).fuse, h.du, fun _ => rfl, PlV.sput h.dk ho h.x, only_base h.bel ho h.low.1 h.low.2.1 h.low.2.2.1, h.low⟩
theorem PlV.unfuse {f : Int} (h : PlV w fb cb mb db X sz false 0 bs n D du a1 a2 a3 c1 c2 c3 (rdC a1 a2 a3 c1 c2 c3 sz f) W) : PlW w fb cb mb db X sz false 0 bs n D du a1 a2 a3 c1 c2 c3 (W.setCell ⟨X, 3, none⟩ (.int .i64 (-1))) := by
  obtain ⟨e1, e2, e3⟩ := three_cell (i := 3) (u := .int .i64 (-1)) h.dk h.rf h.bel h.x h.low.2.2.2
  exact ⟨e1, e2, h.du, h.h0, h.x.set 3 _, e3, h.low⟩
theorem PlW.toV (h : PlW w fb cb mb db X sz a k bs n D du a1 a2 a3 c1 c2 c3 W) : PlV w fb cb mb db X sz a k bs n D du a1 a2 a3 c1 c2 c3 (rdC a1 a2 a3 c1 c2 c3 sz (fuseF a k)) W :=
  ⟨h.dk, h.rf, h.du, h.h0, h.x, h.bel, h.low⟩
theorem Rf.now {f g : Int} (h : Rf W (.agg (rdC a1 a2 a3 c1 c2 c3 sz f).toArray) sz bs du g) : Owns W 0 TS (.slice a2 sz c2) ((rows (nowF bs) sz).map tx) := by
  obtain ⟨bS, bN, bL, dS, dN, dL, h1, h2, h3, h4⟩ := h
  simp only [rdC, Value.agg.injEq, List.toArray, Array.mk.injEq, List.cons.injEq, Value.slice.injEq, and_true, true_and] at h1
  obtain ⟨-, ⟨rfl, rfl⟩, -⟩ := h1
  exact h3
theorem leftS_no : leftS false 0 = 0 := by simp [leftS]
theorem leftF_no : leftF (-1) = -1 := by simp [leftF]
theorem intKeys_none {ss : List Int} (h : ss.Perm (intKeys (.map [] : DataW Unit))) : ss = [] := List.Perm.eq_nil h
end
theorem szAc : (Try.prog.info? TAc).map (·.size) = some 6 := by kernel_rfl
/-- What the region that calls Does keeps. -/
def PlS (X b o : Nat) (xc ac : List Value) (W : World) : Prop := W.rangeAt X 0 xc ∧ W.rangeAt b o ac
end Go.Proofs.Ytjmmbafpiahhiaa
