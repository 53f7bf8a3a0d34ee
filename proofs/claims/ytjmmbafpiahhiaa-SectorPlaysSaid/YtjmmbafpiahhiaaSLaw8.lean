/-
  SectorPlays: Does, one walk a kind, over what the two calls answer.
-/
import Derived.Test.YtjmmbafpiahhiaaSLaw7
namespace Go.Proofs.Ytjmmbafpiahhiaa
open Go.RowKit Go.Maps Go.Sort Go.Shelf Crv
/-- What the program's call keeps. -/
def PgP (fb cb mb db sz n : Nat) (a' : Bool) (k' : Int) (bs' : List UInt8) (du' : Tab) (W W' : World) : Prop := ∃ n' D', n' ≤ n + 7 ∧ Dk W' fb cb mb db sz a' k' bs' n' D' ∧ Du D' du' sz ∧ Only [fb, cb, mb] W W'
section
variable {w : World} {fb cb mb db sz : Nat} {a : Bool} {k : Int} {bs : List UInt8} {n : Nat} {D : DataW Unit} {du : Tab} {v : Value}
theorem St.start (h : Dk w fb cb mb db sz a k bs n D) (hr : Rf w v sz bs du (fuseF a k)) : St w fb cb mb db sz a k bs n D du v w := ⟨h, hr, Only.refl _ _⟩
/-- The program's call has turned the disk. -/
theorem St.prog {w0 W W' : World} {a' : Bool} {k' : Int} {bs' : List UInt8} {n' : Nat} {D' : DataW Unit} (h : St w0 fb cb mb db sz a k bs n D du v W) (hd : Dk W' fb cb mb db sz a' k' bs' n' D') (ho : Only [fb, cb, mb] W W') : Rf W' v sz bs du (fuseF a k) ∧ Dk W' fb cb mb db sz a' k' bs' n' D' ∧ Only [fb, cb, mb] w0 W' :=
  ⟨h.rf.only h.dk ho, hd, h.on.trans ho⟩
theorem sput4 {w : World} {g : Nat} {t : TypeId} {x0 x1 x2 x3 : Value} (h : Mem w g t [x0, x1, x2, x3]) (y0 y1 y2 y3 : Value) : Mem ((((w.setCell ⟨g, 0, none⟩ y0).setCell ⟨g, 1, none⟩ y1).setCell ⟨g, 2, none⟩ y2).setCell ⟨g, 3, none⟩ y3) g t [y0, y1, y2, y3] :=
  (((h.set 0 _).set 1 _).set 2 _).set 3 _
/-- What the walks of Does share: a value of the document's disk with another fuse. -/
theorem Rf.fuse {W : World} {aS aN aL : Option Addr} {cS cN cL : Nat} {f g : Int} (h : Rf W (.agg (rdC aS aN aL cS cN cL sz f).toArray) sz bs du f) : Rf W (.agg (rdC aS aN aL cS cN cL sz g).toArray) sz bs du g := by
  obtain ⟨bS, bN, bL, dS, dN, dL, h1, h2, h3, h4⟩ := h
  simp only [rdC, Value.agg.injEq, List.toArray, Array.mk.injEq, List.cons.injEq, Value.slice.injEq, and_true, true_and] at h1
  obtain ⟨⟨rfl, rfl⟩, ⟨rfl, rfl⟩, rfl, rfl⟩ := h1
  exact ⟨_, _, _, _, _, _, rfl, h2, h3, h4⟩
set_option maxRecDepth 100000 in
set_option maxHeartbeats 1000000 in
theorem does0 (ki at_ nn : Int) (ta : Option Addr) (tn tc : Nat) (ca : Option Addr) (cn cc : Nat) (b : UInt8) (h : Dk w fb cb mb db sz a k bs n D) (hr : Rf w v sz bs du (fuseF a k)) (hdu : Du D du sz) (h0 : a = false → k = 0) (hki : ki < 1 ∨ 7 < ki) :
    Calls Try.prog 12 #[ptr db, v, .agg (acC ki at_ nn ta tn tc ca cn cc b).toArray] w (DoesP w fb cb mb db sz n) := by
  have HSt := Lib.hid (St.start h hr)
  obtain ⟨a1, a2, a3, c1, c2, c3, rfl, -, -, -⟩ := hr
  have HX0 := Lib.hid (Dx.new w (rdC a1 a2 a3 c1 c2 c3 sz (fuseF a k)) (acC ki at_ nn ta tn tc ca cn cc b) (rdC a1 a2 a3 c1 c2 c3 sz (fuseF a k)))
  have HB0 := Lib.hid (belowThen (belowThen (belowSelf w (.cells (rdC a1 a2 a3 c1 c2 c3 sz (fuseF a k)).toArray TRd)) (belowSelf _ (.cells (acC ki at_ nn ta tn tc ca cn cc b).toArray TAc))) (belowSelf _ (.cells (rdC a1 a2 a3 c1 c2 c3 sz (fuseF a k)).toArray TRd)))
  have HS0 := Lib.hid (HSt.out.below HB0.out)
  have HZ := Lib.hid h0
  have hdl := h.d.lt
  have e1 : (ki == 1) = false := by simp only [beq_eq_false_iff_ne, ne_eq]; omega
  have e2 : (ki == 2) = false := by simp only [beq_eq_false_iff_ne, ne_eq]; omega
  have e3 : (ki == 3) = false := by simp only [beq_eq_false_iff_ne, ne_eq]; omega
  have e4 : (ki == 4) = false := by simp only [beq_eq_false_iff_ne, ne_eq]; omega
  have e5 : (ki == 5) = false := by simp only [beq_eq_false_iff_ne, ne_eq]; omega
  have e6 : (ki == 6) = false := by simp only [beq_eq_false_iff_ne, ne_eq]; omega
  have e7 : (ki == 7) = false := by simp only [beq_eq_false_iff_ne, ne_eq]; omega
  have HDU := Lib.hid hdu
  clear h h0 hdu hki
  go_enter Try.func12, Try.ntmps12
  go_wp2_with fail
  exact bodyPost_ret (sres2 HX0.out.r rfl _ _ rfl Try.underlying29 rfl szRd) rfl ⟨_, _, _, _, _, _, _, rfl, HS0.out, HDU.out, HZ.out, by omega⟩

set_option maxRecDepth 100000 in
set_option maxHeartbeats 1000000 in
theorem does1 (at_ nn : Int) (tt : List UInt8) (cd : Int) (ta : Option Addr) (tn tc : Nat) (ca : Option Addr) (cn cc : Nat) (b : UInt8) (a' : Bool) (k' : Int) (bs' : List UInt8) (du' : Tab)  (h : Dk w fb cb mb db sz a k bs n D) (hr : Rf w v sz bs du (fuseF a k)) (h0 : a' = false → k' = 0)
    (hP : ∀ W, Dk W fb cb mb db sz a k bs n D → Calls Try.prog 16 #[ptr db, .int .i64 at_, .int .i64 nn] W fun e w' => e = .returned (.tuple #[.string (str tt), .int .i64 cd]) ∧ PgP fb cb mb db sz n a' k' bs' du' W w')
    (hR : ∀ W, Rf W v sz bs du (fuseF a k) → Calls Try.prog 17 #[v, .int .i64 at_, .int .i64 nn] W fun e w' => ∃ v', e = .returned (.tuple #[v', .string (str tt), .int .i64 cd]) ∧ Rf w' v' sz bs' du' (fuseF a' k') ∧ Below W.heap.size W w') :
    Calls Try.prog 12 #[ptr db, v, .agg (acC 1 at_ nn ta tn tc ca cn cc b).toArray] w (DoesP w fb cb mb db sz n) := by
  have HSt := Lib.hid (St.start h hr)
  obtain ⟨a1, a2, a3, c1, c2, c3, rfl, -, -, -⟩ := hr
  have HX0 := Lib.hid (Dx.new w (rdC a1 a2 a3 c1 c2 c3 sz (fuseF a k)) (acC 1 at_ nn ta tn tc ca cn cc b) zRd)
  have HB0 := Lib.hid (belowThen (belowThen (belowSelf w (.cells (rdC a1 a2 a3 c1 c2 c3 sz (fuseF a k)).toArray TRd)) (belowSelf _ (.cells (acC 1 at_ nn ta tn tc ca cn cc b).toArray TAc))) (belowSelf _ (.cells zRd.toArray TRd)))
  have HS0 := Lib.hid (HSt.out.below HB0.out)
  have HBL := Lib.hid (show ∀ i ∈ [fb, cb, mb], i < w.heap.size from fun i hi => by
    simp only [List.mem_cons, List.not_mem_nil, or_false] at hi
    rcases hi with rfl | rfl | rfl
    · exact h.f.lt
    · exact h.c.lt
    · exact h.m.lt)
  have HZ := Lib.hid h0
  have hdl := h.d.lt
  have HR0 := Lib.hid hR
  have HP := Lib.hid (hP _ HS0.out.dk)
  clear h h0 hP hR
  go_enter Try.func12, Try.ntmps12
  go_wp2_with fail
  refine HP.out.mono ?_
  rintro e w1 ⟨rfl, n2, D2, hn2, hd1, hdu2, ho1⟩
  obtain ⟨hr1, hd1, ho1'⟩ := HS0.out.prog hd1 ho1
  have hx1 := HX0.out.only ho1 HBL.out
  have HDU := Lib.hid hdu2
  obtain ⟨⟨k0, g0⟩, ⟨k1, g1⟩, ⟨k2, g2⟩, ⟨k3, g3⟩⟩ := mem4 hx1.x
  obtain ⟨⟨r0, q0⟩, ⟨r1, q1⟩, ⟨r2, q2⟩, ⟨r3, q3⟩⟩ := mem4 hx1.r
  obtain ⟨y0, y1, y2, y3, y4, y5⟩ := mem6 hx1.c
  have hz0 : w.heap.size < w1.heap.size := hx1.x.lt
  have hz1 : w.heap.size + 1 < w1.heap.size := hx1.c.lt
  have hz2 : w.heap.size + 1 + 1 < w1.heap.size := hx1.r.lt
  have HX1 := Lib.hid hx1
  have HD1 := Lib.hid hd1
  have HO1 := Lib.hid ho1'
  have HR := Lib.hid (HR0.out w1 hr1)
  clear hx1 hd1 ho1 ho1' hr1 hdu2 HR0
  go_wp2_with fail
  refine HR.out.mono ?_
  rintro e w2 ⟨v2, rfl, hr2, hb2⟩
  have hst : St w fb cb mb db sz a' k' bs' n2 D2 du' v2 w2 := ⟨HD1.out.below hb2, hr2, HO1.out.trans (Only.of_below hb2)⟩
  obtain ⟨b1, b2, b3, d1, d2, d3, rfl, -, -, -⟩ := hr2
  have hx2 := HX1.out.below hb2
  have HSt2 := Lib.hid hst
  have HX2 := Lib.hid hx2
  clear hb2 hst k0 g0 k1 g1 k2 g2 k3 g3 r0 q0 r1 q1 r2 q2 r3 q3 y0 y1 y2 y3 y4 y5 hz0 hz1 hz2
  obtain ⟨⟨k0, g0⟩, ⟨k1, g1⟩, ⟨k2, g2⟩, ⟨k3, g3⟩⟩ := mem4 hx2.x
  obtain ⟨⟨r0, q0⟩, ⟨r1, q1⟩, ⟨r2, q2⟩, ⟨r3, q3⟩⟩ := mem4 hx2.r
  obtain ⟨y0, y1, y2, y3, y4, y5⟩ := mem6 hx2.c
  have hz0 : w.heap.size < w2.heap.size := hx2.x.lt
  have hz1 : w.heap.size + 1 < w2.heap.size := hx2.c.lt
  have hz2 : w.heap.size + 1 + 1 < w2.heap.size := hx2.r.lt
  clear hx2
  go_wp2_with fail
  have hsf := (HSt2.out).put4 HX2.out.r (by omega) (.slice b1 sz d1) (.slice b2 sz d2) (.slice b3 sz d3) (.int .i64 (fuseF a' k'))
  have hsg := hsf.below (belowSelf _ (.cells (rdC b1 b2 b3 d1 d2 d3 sz (fuseF a' k')).toArray TRd))
  have hmf := (Crv.Mem.alloc (sput4 HX2.out.r (.slice b1 sz d1) (.slice b2 sz d2) (.slice b3 sz d3) (.int .i64 (fuseF a' k'))) (.cells (rdC b1 b2 b3 d1 d2 d3 sz (fuseF a' k')).toArray TRd))
  exact bodyPost_ret (sres2 hmf rfl _ _ rfl Try.underlying29 rfl szRd) rfl ⟨_, _, _, _, _, _, _, rfl, hsg, HDU.out, HZ.out, hn2⟩

set_option maxRecDepth 100000 in
set_option maxHeartbeats 1000000 in
theorem does2 (at_ nn : Int) (ls : List (List UInt8)) (cd : Int) (ta : Option Addr) (tn tc : Nat) (ca : Option Addr) (cn cc : Nat) (b : UInt8) (a' : Bool) (k' : Int) (bs' : List UInt8) (du' : Tab)  (h : Dk w fb cb mb db sz a k bs n D) (hr : Rf w v sz bs du (fuseF a k)) (h0 : a' = false → k' = 0) (hv : Txs w (.slice ta tn tc) ls) (hlen : ls.length ≤ 9223372036854775807)
    (hP : ∀ W, Dk W fb cb mb db sz a k bs n D → ∀ tv, Txs W tv (cutL 70 (ls.take 6)) → Calls Try.prog 23 #[ptr db, .int .i64 at_, tv] W fun e w' => e = .returned (.int .i64 cd) ∧ PgP fb cb mb db sz n a' k' bs' du' W w')
    (hR : ∀ W, Rf W v sz bs du (fuseF a k) → ∀ tv, Txs W tv (cutL 70 (ls.take 6)) → Calls Try.prog 28 #[v, .int .i64 at_, tv] W fun e w' => ∃ v', e = .returned (.tuple #[v', .int .i64 cd]) ∧ Rf w' v' sz bs' du' (fuseF a' k') ∧ Below W.heap.size W w') :
    Calls Try.prog 12 #[ptr db, v, .agg (acC 2 at_ nn ta tn tc ca cn cc b).toArray] w (DoesP w fb cb mb db sz n) := by
  have HSt := Lib.hid (St.start h hr)
  obtain ⟨a1, a2, a3, c1, c2, c3, rfl, -, -, -⟩ := hr
  have HX0 := Lib.hid (Dx.new w (rdC a1 a2 a3 c1 c2 c3 sz (fuseF a k)) (acC 2 at_ nn ta tn tc ca cn cc b) zRd)
  have HB0 := Lib.hid (belowThen (belowThen (belowSelf w (.cells (rdC a1 a2 a3 c1 c2 c3 sz (fuseF a k)).toArray TRd)) (belowSelf _ (.cells (acC 2 at_ nn ta tn tc ca cn cc b).toArray TAc))) (belowSelf _ (.cells zRd.toArray TRd)))
  have HS0 := Lib.hid (HSt.out.below HB0.out)
  have HBL := Lib.hid (show ∀ i ∈ [fb, cb, mb], i < w.heap.size from fun i hi => by
    simp only [List.mem_cons, List.not_mem_nil, or_false] at hi
    rcases hi with rfl | rfl | rfl
    · exact h.f.lt
    · exact h.c.lt
    · exact h.m.lt)
  have HZ := Lib.hid h0
  have hdl := h.d.lt
  have HF := Lib.hid (few_any _ _ ls (hv.below HB0.out) hlen)
  have HP0 := Lib.hid hP
  have HR0 := Lib.hid hR
  clear h h0 hP hR hv hlen
  go_enter Try.func12, Try.ntmps12
  go_wp2_with fail
  refine HF.out.mono ?_
  rintro e wf ⟨tv, rfl, hof, hbf⟩
  have HTX := Lib.hid (Txs.of_owns hof)
  have HSf := Lib.hid (HS0.out.below hbf)
  have HXf := Lib.hid (HX0.out.below hbf)
  have HP := Lib.hid (HP0.out wf HSf.out.dk tv HTX.out)
  clear hof hbf HP0 HF
  obtain ⟨⟨k0, g0⟩, ⟨k1, g1⟩, ⟨k2, g2⟩, ⟨k3, g3⟩⟩ := mem4 HXf.out.x
  obtain ⟨⟨r0, q0⟩, ⟨r1, q1⟩, ⟨r2, q2⟩, ⟨r3, q3⟩⟩ := mem4 HXf.out.r
  obtain ⟨y0, y1, y2, y3, y4, y5⟩ := mem6 HXf.out.c
  have hz0 : w.heap.size < wf.heap.size := HXf.out.x.lt
  have hz1 : w.heap.size + 1 < wf.heap.size := HXf.out.c.lt
  have hz2 : w.heap.size + 1 + 1 < wf.heap.size := HXf.out.r.lt
  go_wp2_with fail
  refine HP.out.mono ?_
  rintro e w1 ⟨rfl, n2, D2, hn2, hd1, hdu2, ho1⟩
  clear k0 g0 k1 g1 k2 g2 k3 g3 r0 q0 r1 q1 r2 q2 r3 q3 y0 y1 y2 y3 y4 y5 hz0 hz1 hz2
  obtain ⟨hr1, hd1, ho1'⟩ := HSf.out.prog hd1 ho1
  have hx1 := HXf.out.only ho1 HBL.out
  have HDU := Lib.hid hdu2
  obtain ⟨⟨k0, g0⟩, ⟨k1, g1⟩, ⟨k2, g2⟩, ⟨k3, g3⟩⟩ := mem4 hx1.x
  obtain ⟨⟨r0, q0⟩, ⟨r1, q1⟩, ⟨r2, q2⟩, ⟨r3, q3⟩⟩ := mem4 hx1.r
  obtain ⟨y0, y1, y2, y3, y4, y5⟩ := mem6 hx1.c
  have hz0 : w.heap.size < w1.heap.size := hx1.x.lt
  have hz1 : w.heap.size + 1 < w1.heap.size := hx1.c.lt
  have hz2 : w.heap.size + 1 + 1 < w1.heap.size := hx1.r.lt
  have HTX1 := Lib.hid (HTX.out.only HSf.out.dk ho1)
  have HX1 := Lib.hid hx1
  have HD1 := Lib.hid hd1
  have HO1 := Lib.hid ho1'
  have HR := Lib.hid (HR0.out w1 hr1 tv HTX1.out)
  clear hx1 hd1 ho1 ho1' hr1 hdu2 HR0
  go_wp2_with fail
  refine HR.out.mono ?_
  rintro e w2 ⟨v2, rfl, hr2, hb2⟩
  have hst : St w fb cb mb db sz a' k' bs' n2 D2 du' v2 w2 := ⟨HD1.out.below hb2, hr2, HO1.out.trans (Only.of_below hb2)⟩
  obtain ⟨b1, b2, b3, d1, d2, d3, rfl, -, -, -⟩ := hr2
  have hx2 := HX1.out.below hb2
  have HSt2 := Lib.hid hst
  have HX2 := Lib.hid hx2
  clear hb2 hst k0 g0 k1 g1 k2 g2 k3 g3 r0 q0 r1 q1 r2 q2 r3 q3 y0 y1 y2 y3 y4 y5 hz0 hz1 hz2
  obtain ⟨⟨k0, g0⟩, ⟨k1, g1⟩, ⟨k2, g2⟩, ⟨k3, g3⟩⟩ := mem4 hx2.x
  obtain ⟨⟨r0, q0⟩, ⟨r1, q1⟩, ⟨r2, q2⟩, ⟨r3, q3⟩⟩ := mem4 hx2.r
  obtain ⟨y0, y1, y2, y3, y4, y5⟩ := mem6 hx2.c
  have hz0 : w.heap.size < w2.heap.size := hx2.x.lt
  have hz1 : w.heap.size + 1 < w2.heap.size := hx2.c.lt
  have hz2 : w.heap.size + 1 + 1 < w2.heap.size := hx2.r.lt
  clear hx2
  go_wp2_with fail
  have hsf := (HSt2.out).put4 HX2.out.r (by omega) (.slice b1 sz d1) (.slice b2 sz d2) (.slice b3 sz d3) (.int .i64 (fuseF a' k'))
  have hsg := hsf.below (belowSelf _ (.cells (rdC b1 b2 b3 d1 d2 d3 sz (fuseF a' k')).toArray TRd))
  have hmf := (Crv.Mem.alloc (sput4 HX2.out.r (.slice b1 sz d1) (.slice b2 sz d2) (.slice b3 sz d3) (.int .i64 (fuseF a' k'))) (.cells (rdC b1 b2 b3 d1 d2 d3 sz (fuseF a' k')).toArray TRd))
  exact bodyPost_ret (sres2 hmf rfl _ _ rfl Try.underlying29 rfl szRd) rfl ⟨_, _, _, _, _, _, _, rfl, hsg, HDU.out, HZ.out, hn2⟩

set_option maxRecDepth 100000 in
set_option maxHeartbeats 1000000 in
theorem does3 (at_ nn : Int) (cd : Int) (ta : Option Addr) (tn tc : Nat) (ca : Option Addr) (cn cc : Nat) (b : UInt8) (a' : Bool) (k' : Int) (bs' : List UInt8) (du' : Tab)  (h : Dk w fb cb mb db sz a k bs n D) (hr : Rf w v sz bs du (fuseF a k)) (h0 : a' = false → k' = 0)
    (hP : ∀ W, Dk W fb cb mb db sz a k bs n D → Calls Try.prog 24 #[ptr db] W fun e w' => e = .returned (.int .i64 cd) ∧ PgP fb cb mb db sz n a' k' bs' du' W w')
    (hR : ∀ W, Rf W v sz bs du (fuseF a k) → Calls Try.prog 29 #[v] W fun e w' => ∃ v', e = .returned (.tuple #[v', .int .i64 cd]) ∧ Rf w' v' sz bs' du' (fuseF a' k') ∧ Below W.heap.size W w') :
    Calls Try.prog 12 #[ptr db, v, .agg (acC 3 at_ nn ta tn tc ca cn cc b).toArray] w (DoesP w fb cb mb db sz n) := by
  have HSt := Lib.hid (St.start h hr)
  obtain ⟨a1, a2, a3, c1, c2, c3, rfl, -, -, -⟩ := hr
  have HX0 := Lib.hid (Dx.new w (rdC a1 a2 a3 c1 c2 c3 sz (fuseF a k)) (acC 3 at_ nn ta tn tc ca cn cc b) zRd)
  have HB0 := Lib.hid (belowThen (belowThen (belowSelf w (.cells (rdC a1 a2 a3 c1 c2 c3 sz (fuseF a k)).toArray TRd)) (belowSelf _ (.cells (acC 3 at_ nn ta tn tc ca cn cc b).toArray TAc))) (belowSelf _ (.cells zRd.toArray TRd)))
  have HS0 := Lib.hid (HSt.out.below HB0.out)
  have HBL := Lib.hid (show ∀ i ∈ [fb, cb, mb], i < w.heap.size from fun i hi => by
    simp only [List.mem_cons, List.not_mem_nil, or_false] at hi
    rcases hi with rfl | rfl | rfl
    · exact h.f.lt
    · exact h.c.lt
    · exact h.m.lt)
  have HZ := Lib.hid h0
  have hdl := h.d.lt
  have HR0 := Lib.hid hR
  have HP := Lib.hid (hP _ HS0.out.dk)
  clear h h0 hP hR
  go_enter Try.func12, Try.ntmps12
  go_wp2_with fail
  refine HP.out.mono ?_
  rintro e w1 ⟨rfl, n2, D2, hn2, hd1, hdu2, ho1⟩
  obtain ⟨hr1, hd1, ho1'⟩ := HS0.out.prog hd1 ho1
  have hx1 := HX0.out.only ho1 HBL.out
  have HDU := Lib.hid hdu2
  obtain ⟨⟨k0, g0⟩, ⟨k1, g1⟩, ⟨k2, g2⟩, ⟨k3, g3⟩⟩ := mem4 hx1.x
  obtain ⟨⟨r0, q0⟩, ⟨r1, q1⟩, ⟨r2, q2⟩, ⟨r3, q3⟩⟩ := mem4 hx1.r
  obtain ⟨y0, y1, y2, y3, y4, y5⟩ := mem6 hx1.c
  have hz0 : w.heap.size < w1.heap.size := hx1.x.lt
  have hz1 : w.heap.size + 1 < w1.heap.size := hx1.c.lt
  have hz2 : w.heap.size + 1 + 1 < w1.heap.size := hx1.r.lt
  have HX1 := Lib.hid hx1
  have HD1 := Lib.hid hd1
  have HO1 := Lib.hid ho1'
  have HR := Lib.hid (HR0.out w1 hr1)
  clear hx1 hd1 ho1 ho1' hr1 hdu2 HR0
  go_wp2_with fail
  refine HR.out.mono ?_
  rintro e w2 ⟨v2, rfl, hr2, hb2⟩
  have hst : St w fb cb mb db sz a' k' bs' n2 D2 du' v2 w2 := ⟨HD1.out.below hb2, hr2, HO1.out.trans (Only.of_below hb2)⟩
  obtain ⟨b1, b2, b3, d1, d2, d3, rfl, -, -, -⟩ := hr2
  have hx2 := HX1.out.below hb2
  have HSt2 := Lib.hid hst
  have HX2 := Lib.hid hx2
  clear hb2 hst k0 g0 k1 g1 k2 g2 k3 g3 r0 q0 r1 q1 r2 q2 r3 q3 y0 y1 y2 y3 y4 y5 hz0 hz1 hz2
  obtain ⟨⟨k0, g0⟩, ⟨k1, g1⟩, ⟨k2, g2⟩, ⟨k3, g3⟩⟩ := mem4 hx2.x
  obtain ⟨⟨r0, q0⟩, ⟨r1, q1⟩, ⟨r2, q2⟩, ⟨r3, q3⟩⟩ := mem4 hx2.r
  obtain ⟨y0, y1, y2, y3, y4, y5⟩ := mem6 hx2.c
  have hz0 : w.heap.size < w2.heap.size := hx2.x.lt
  have hz1 : w.heap.size + 1 < w2.heap.size := hx2.c.lt
  have hz2 : w.heap.size + 1 + 1 < w2.heap.size := hx2.r.lt
  clear hx2
  go_wp2_with fail
  have hsf := (HSt2.out).put4 HX2.out.r (by omega) (.slice b1 sz d1) (.slice b2 sz d2) (.slice b3 sz d3) (.int .i64 (fuseF a' k'))
  have hsg := hsf.below (belowSelf _ (.cells (rdC b1 b2 b3 d1 d2 d3 sz (fuseF a' k')).toArray TRd))
  have hmf := (Crv.Mem.alloc (sput4 HX2.out.r (.slice b1 sz d1) (.slice b2 sz d2) (.slice b3 sz d3) (.int .i64 (fuseF a' k'))) (.cells (rdC b1 b2 b3 d1 d2 d3 sz (fuseF a' k')).toArray TRd))
  exact bodyPost_ret (sres2 hmf rfl _ _ rfl Try.underlying29 rfl szRd) rfl ⟨_, _, _, _, _, _, _, rfl, hsg, HDU.out, HZ.out, hn2⟩

set_option maxRecDepth 100000 in
set_option maxHeartbeats 1000000 in
theorem does4 (at_ nn : Int) (ch : List Int) (ta : Option Addr) (tn tc : Nat) (ca : Option Addr) (cn cc : Nat) (b : UInt8) (a' : Bool) (k' : Int) (bs' : List UInt8) (du' : Tab)  (h : Dk w fb cb mb db sz a k bs n D) (hr : Rf w v sz bs du (fuseF a k)) (h0 : a' = false → k' = 0) (hz : Zs w (.slice ca cn cc) ch) (hav : ch ≠ [] → ∀ g, Value.ownBlock (.slice ca cn cc) = some g → g ∉ [fb, cb, mb])
    (hP : ∀ W, Dk W fb cb mb db sz a k bs n D → Zs W (.slice ca cn cc) ch → Calls Try.prog 18 #[ptr db, .slice ca cn cc] W fun e w' => e = .returned (.tuple #[]) ∧ PgP fb cb mb db sz n a' k' bs' du' W w')
    (hR : ∀ W, Rf W v sz bs du (fuseF a k) → Zs W (.slice ca cn cc) ch → Calls Try.prog 19 #[v, .slice ca cn cc] W fun e w' => ∃ v', e = .returned v' ∧ Rf w' v' sz bs' du' (fuseF a' k') ∧ Below W.heap.size W w') :
    Calls Try.prog 12 #[ptr db, v, .agg (acC 4 at_ nn ta tn tc ca cn cc b).toArray] w (DoesP w fb cb mb db sz n) := by
  have HSt := Lib.hid (St.start h hr)
  obtain ⟨a1, a2, a3, c1, c2, c3, rfl, -, -, -⟩ := hr
  have HX0 := Lib.hid (Dx.new w (rdC a1 a2 a3 c1 c2 c3 sz (fuseF a k)) (acC 4 at_ nn ta tn tc ca cn cc b) zRd)
  have HB0 := Lib.hid (belowThen (belowThen (belowSelf w (.cells (rdC a1 a2 a3 c1 c2 c3 sz (fuseF a k)).toArray TRd)) (belowSelf _ (.cells (acC 4 at_ nn ta tn tc ca cn cc b).toArray TAc))) (belowSelf _ (.cells zRd.toArray TRd)))
  have HS0 := Lib.hid (HSt.out.below HB0.out)
  have HBL := Lib.hid (show ∀ i ∈ [fb, cb, mb], i < w.heap.size from fun i hi => by
    simp only [List.mem_cons, List.not_mem_nil, or_false] at hi
    rcases hi with rfl | rfl | rfl
    · exact h.f.lt
    · exact h.c.lt
    · exact h.m.lt)
  have HZ := Lib.hid h0
  have hdl := h.d.lt
  have HZ0 := Lib.hid (szs_below hz HB0.out)
  have HAV := Lib.hid hav
  have HR0 := Lib.hid hR
  have HP := Lib.hid (hP _ HS0.out.dk HZ0.out)
  clear h h0 hP hR hz hav
  go_enter Try.func12, Try.ntmps12
  go_wp2_with fail
  refine HP.out.mono ?_
  rintro e w1 ⟨rfl, n2, D2, hn2, hd1, hdu2, ho1⟩
  obtain ⟨hr1, hd1, ho1'⟩ := HS0.out.prog hd1 ho1
  have hx1 := HX0.out.only ho1 HBL.out
  have HDU := Lib.hid hdu2
  obtain ⟨⟨k0, g0⟩, ⟨k1, g1⟩, ⟨k2, g2⟩, ⟨k3, g3⟩⟩ := mem4 hx1.x
  obtain ⟨⟨r0, q0⟩, ⟨r1, q1⟩, ⟨r2, q2⟩, ⟨r3, q3⟩⟩ := mem4 hx1.r
  obtain ⟨y0, y1, y2, y3, y4, y5⟩ := mem6 hx1.c
  have hz0 : w.heap.size < w1.heap.size := hx1.x.lt
  have hz1 : w.heap.size + 1 < w1.heap.size := hx1.c.lt
  have hz2 : w.heap.size + 1 + 1 < w1.heap.size := hx1.r.lt
  have HX1 := Lib.hid hx1
  have HD1 := Lib.hid hd1
  have HO1 := Lib.hid ho1'
  have HR := Lib.hid (HR0.out w1 hr1 (HZ0.out.only ho1 HAV.out))
  clear hx1 hd1 ho1 ho1' hr1 hdu2 HR0
  go_wp2_with fail
  refine HR.out.mono ?_
  rintro e w2 ⟨v2, rfl, hr2, hb2⟩
  have hst : St w fb cb mb db sz a' k' bs' n2 D2 du' v2 w2 := ⟨HD1.out.below hb2, hr2, HO1.out.trans (Only.of_below hb2)⟩
  obtain ⟨b1, b2, b3, d1, d2, d3, rfl, -, -, -⟩ := hr2
  have hx2 := HX1.out.below hb2
  have HSt2 := Lib.hid hst
  have HX2 := Lib.hid hx2
  clear hb2 hst k0 g0 k1 g1 k2 g2 k3 g3 r0 q0 r1 q1 r2 q2 r3 q3 y0 y1 y2 y3 y4 y5 hz0 hz1 hz2
  obtain ⟨⟨k0, g0⟩, ⟨k1, g1⟩, ⟨k2, g2⟩, ⟨k3, g3⟩⟩ := mem4 hx2.x
  obtain ⟨⟨r0, q0⟩, ⟨r1, q1⟩, ⟨r2, q2⟩, ⟨r3, q3⟩⟩ := mem4 hx2.r
  obtain ⟨y0, y1, y2, y3, y4, y5⟩ := mem6 hx2.c
  have hz0 : w.heap.size < w2.heap.size := hx2.x.lt
  have hz1 : w.heap.size + 1 < w2.heap.size := hx2.c.lt
  have hz2 : w.heap.size + 1 + 1 < w2.heap.size := hx2.r.lt
  clear hx2
  go_wp2_with fail
  have hsf := (HSt2.out).put4 HX2.out.r (by omega) (.slice b1 sz d1) (.slice b2 sz d2) (.slice b3 sz d3) (.int .i64 (fuseF a' k'))
  exact bodyPost_ret (sres2 (sput4 HX2.out.r (.slice b1 sz d1) (.slice b2 sz d2) (.slice b3 sz d3) (.int .i64 (fuseF a' k'))) rfl _ _ rfl Try.underlying29 rfl szRd) rfl ⟨_, _, _, _, _, _, _, rfl, hsf, HDU.out, HZ.out, hn2⟩

set_option maxRecDepth 100000 in
set_option maxHeartbeats 1000000 in
theorem does5 (at_ nn : Int) (cd : Int) (ta : Option Addr) (tn tc : Nat) (ca : Option Addr) (cn cc : Nat) (b : UInt8) (a' : Bool) (k' : Int) (bs' : List UInt8) (du' : Tab)  (h : Dk w fb cb mb db sz a k bs n D) (hr : Rf w v sz bs du (fuseF a k)) (h0 : a' = false → k' = 0)
    (hP : ∀ W, Dk W fb cb mb db sz a k bs n D → Calls Try.prog 30 #[ptr db, .int .i64 at_, .int .i64 nn, .int .u8 (b.toNat : Int)] W fun e w' => e = .returned (.int .i64 cd) ∧ PgP fb cb mb db sz n a' k' bs' du' W w')
    (hR : ∀ W, Rf W v sz bs du (fuseF a k) → Calls Try.prog 31 #[v, .int .i64 at_, .int .i64 nn, .int .u8 (b.toNat : Int)] W fun e w' => ∃ v', e = .returned (.tuple #[v', .int .i64 cd]) ∧ Rf w' v' sz bs' du' (fuseF a' k') ∧ Below W.heap.size W w') :
    Calls Try.prog 12 #[ptr db, v, .agg (acC 5 at_ nn ta tn tc ca cn cc b).toArray] w (DoesP w fb cb mb db sz n) := by
  have HSt := Lib.hid (St.start h hr)
  obtain ⟨a1, a2, a3, c1, c2, c3, rfl, -, -, -⟩ := hr
  have HX0 := Lib.hid (Dx.new w (rdC a1 a2 a3 c1 c2 c3 sz (fuseF a k)) (acC 5 at_ nn ta tn tc ca cn cc b) zRd)
  have HB0 := Lib.hid (belowThen (belowThen (belowSelf w (.cells (rdC a1 a2 a3 c1 c2 c3 sz (fuseF a k)).toArray TRd)) (belowSelf _ (.cells (acC 5 at_ nn ta tn tc ca cn cc b).toArray TAc))) (belowSelf _ (.cells zRd.toArray TRd)))
  have HS0 := Lib.hid (HSt.out.below HB0.out)
  have HBL := Lib.hid (show ∀ i ∈ [fb, cb, mb], i < w.heap.size from fun i hi => by
    simp only [List.mem_cons, List.not_mem_nil, or_false] at hi
    rcases hi with rfl | rfl | rfl
    · exact h.f.lt
    · exact h.c.lt
    · exact h.m.lt)
  have HZ := Lib.hid h0
  have hdl := h.d.lt
  have HR0 := Lib.hid hR
  have HP := Lib.hid (hP _ HS0.out.dk)
  clear h h0 hP hR
  go_enter Try.func12, Try.ntmps12
  go_wp2_with fail
  refine HP.out.mono ?_
  rintro e w1 ⟨rfl, n2, D2, hn2, hd1, hdu2, ho1⟩
  obtain ⟨hr1, hd1, ho1'⟩ := HS0.out.prog hd1 ho1
  have hx1 := HX0.out.only ho1 HBL.out
  have HDU := Lib.hid hdu2
  obtain ⟨⟨k0, g0⟩, ⟨k1, g1⟩, ⟨k2, g2⟩, ⟨k3, g3⟩⟩ := mem4 hx1.x
  obtain ⟨⟨r0, q0⟩, ⟨r1, q1⟩, ⟨r2, q2⟩, ⟨r3, q3⟩⟩ := mem4 hx1.r
  obtain ⟨y0, y1, y2, y3, y4, y5⟩ := mem6 hx1.c
  have hz0 : w.heap.size < w1.heap.size := hx1.x.lt
  have hz1 : w.heap.size + 1 < w1.heap.size := hx1.c.lt
  have hz2 : w.heap.size + 1 + 1 < w1.heap.size := hx1.r.lt
  have HX1 := Lib.hid hx1
  have HD1 := Lib.hid hd1
  have HO1 := Lib.hid ho1'
  have HR := Lib.hid (HR0.out w1 hr1)
  clear hx1 hd1 ho1 ho1' hr1 hdu2 HR0
  go_wp2_with fail
  refine HR.out.mono ?_
  rintro e w2 ⟨v2, rfl, hr2, hb2⟩
  have hst : St w fb cb mb db sz a' k' bs' n2 D2 du' v2 w2 := ⟨HD1.out.below hb2, hr2, HO1.out.trans (Only.of_below hb2)⟩
  obtain ⟨b1, b2, b3, d1, d2, d3, rfl, -, -, -⟩ := hr2
  have hx2 := HX1.out.below hb2
  have HSt2 := Lib.hid hst
  have HX2 := Lib.hid hx2
  clear hb2 hst k0 g0 k1 g1 k2 g2 k3 g3 r0 q0 r1 q1 r2 q2 r3 q3 y0 y1 y2 y3 y4 y5 hz0 hz1 hz2
  obtain ⟨⟨k0, g0⟩, ⟨k1, g1⟩, ⟨k2, g2⟩, ⟨k3, g3⟩⟩ := mem4 hx2.x
  obtain ⟨⟨r0, q0⟩, ⟨r1, q1⟩, ⟨r2, q2⟩, ⟨r3, q3⟩⟩ := mem4 hx2.r
  obtain ⟨y0, y1, y2, y3, y4, y5⟩ := mem6 hx2.c
  have hz0 : w.heap.size < w2.heap.size := hx2.x.lt
  have hz1 : w.heap.size + 1 < w2.heap.size := hx2.c.lt
  have hz2 : w.heap.size + 1 + 1 < w2.heap.size := hx2.r.lt
  clear hx2
  go_wp2_with fail
  have hsf := (HSt2.out).put4 HX2.out.r (by omega) (.slice b1 sz d1) (.slice b2 sz d2) (.slice b3 sz d3) (.int .i64 (fuseF a' k'))
  have hsg := hsf.below (belowSelf _ (.cells (rdC b1 b2 b3 d1 d2 d3 sz (fuseF a' k')).toArray TRd))
  have hmf := (Crv.Mem.alloc (sput4 HX2.out.r (.slice b1 sz d1) (.slice b2 sz d2) (.slice b3 sz d3) (.int .i64 (fuseF a' k'))) (.cells (rdC b1 b2 b3 d1 d2 d3 sz (fuseF a' k')).toArray TRd))
  exact bodyPost_ret (sres2 hmf rfl _ _ rfl Try.underlying29 rfl szRd) rfl ⟨_, _, _, _, _, _, _, rfl, hsg, HDU.out, HZ.out, hn2⟩

def ArS (g db fb : Nat) (nn : Int) (W : World) : Prop := W.cell? ⟨db, 0, none⟩ = some (ptr fb) ∧ W.cell? ⟨g, 2, none⟩ = some (.int .i64 nn)
set_option maxRecDepth 100000 in
set_option maxHeartbeats 1000000 in
theorem does6 (at_ nn : Int) (ta : Option Addr) (tn tc : Nat) (ca : Option Addr) (cn cc : Nat) (b : UInt8) (a' : Bool) (k' : Int) (h : Dk w fb cb mb db sz a k bs n D) (hr : Rf w v sz bs du (fuseF a k)) (h0 : a' = false → k' = 0) (hf : fuseF a' k' = max nn 0)
    (hP : ∀ W, Dk W fb cb mb db sz a k bs n D → Calls Try.prog 25 #[ptr fb, .int .i64 nn] W fun e w' => e = .returned (.tuple #[]) ∧ PgP fb cb mb db sz n a' k' bs du W w') :
    Calls Try.prog 12 #[ptr db, v, .agg (acC 6 at_ nn ta tn tc ca cn cc b).toArray] w (DoesP w fb cb mb db sz n) := by
  have HSt := Lib.hid (St.start h hr)
  obtain ⟨a1, a2, a3, c1, c2, c3, rfl, -, -, -⟩ := hr
  have HX0 := Lib.hid (Dx.new w (rdC a1 a2 a3 c1 c2 c3 sz (fuseF a k)) (acC 6 at_ nn ta tn tc ca cn cc b) zRd)
  have HB0 := Lib.hid (belowThen (belowThen (belowSelf w (.cells (rdC a1 a2 a3 c1 c2 c3 sz (fuseF a k)).toArray TRd)) (belowSelf _ (.cells (acC 6 at_ nn ta tn tc ca cn cc b).toArray TAc))) (belowSelf _ (.cells zRd.toArray TRd)))
  have HS0 := Lib.hid (HSt.out.below HB0.out)
  have HBL := Lib.hid (show ∀ i ∈ [fb, cb, mb], i < w.heap.size from fun i hi => by
    simp only [List.mem_cons, List.not_mem_nil, or_false] at hi
    rcases hi with rfl | rfl | rfl
    · exact h.f.lt
    · exact h.c.lt
    · exact h.m.lt)
  have HZ := Lib.hid h0
  have hdl := h.d.lt
  have HFF := Lib.hid hf
  have c0 : w.cell? ⟨db, 0, none⟩ = some (ptr fb) := h.d.cell 0
  have HSd := Lib.hid (HS0.out.below (below_drewN (Below.refl _ _) 1))
  have HXd := Lib.hid (HX0.out.below (below_drewN (Below.refl _ _) 1))
  have HP := Lib.hid (hP _ HSd.out.dk)
  clear h h0 hP hf
  go_enter Try.func12, Try.ntmps12
  go_wp2_with fail
  refine wp_region_held_drew (S := ArS (w.heap.size + 1) db fb nn) (by kernel_rfl) ⟨HSd.out.dk.d.cell 0, HXd.out.c.cell 2⟩ (fun hHeld => ?_)
  refine wpAnyH_take (i := 0) (oi := { dst := some 127, op := Op.move (Operand.tmp 0), type := 24, pos := "law.go:63", after := #[], guard := none }) (v := ptr db) rfl (by kernel_rfl) (by kernel_rfl) (by kernel_rfl) (fun _ _ _ h => h) (Or.inl ⟨by rfl, ?_⟩) hHeld ?_
  · intro w' hSw
    obtain ⟨z1, z2⟩ := hSw
    go_simp
  simp only [Act.put, List.setIfInBounds_toArray, List.set_cons_zero, List.set_cons_succ]
  refine wpAnyH_take (i := 1) (oi := { dst := some 128, op := Op.nilCheck (Operand.tmp 127), type := 0, pos := "law.go:63", after := #[{ on := 0, ground := Ground.data }], guard := none }) (v := ptr db) rfl (by kernel_rfl) (by kernel_rfl) (by kernel_rfl) (fun _ _ _ h => h) (Or.inl ⟨by rfl, ?_⟩) hHeld ?_
  · intro w' hSw
    obtain ⟨z1, z2⟩ := hSw
    go_simp
  simp only [Act.put, List.setIfInBounds_toArray, List.set_cons_zero, List.set_cons_succ]
  refine wpAnyH_take (i := 2) (oi := { dst := some 129, op := Op.fieldAddr 41 (Operand.tmp 128) 0, type := 0, pos := "law.go:63", after := #[{ on := 1, ground := Ground.data }], guard := none }) (v := .pointer (some ⟨db, 0, none⟩)) rfl (by kernel_rfl) (by kernel_rfl) (by kernel_rfl) (fun _ _ _ h => h) (Or.inl ⟨by rfl, ?_⟩) hHeld ?_
  · intro w' hSw
    obtain ⟨z1, z2⟩ := hSw
    go_simp
  simp only [Act.put, List.setIfInBounds_toArray, List.set_cons_zero, List.set_cons_succ]
  refine wpAnyH_take (i := 3) (oi := { dst := some 130, op := Op.load 37 (Operand.tmp 129), type := 37, pos := "law.go:63", after := #[{ on := 2, ground := Ground.data }], guard := none }) (v := ptr fb) rfl (by kernel_rfl) (by kernel_rfl) (by kernel_rfl) (fun _ _ _ h => h) (Or.inl ⟨by rfl, ?_⟩) hHeld ?_
  · intro w' hSw
    obtain ⟨z1, z2⟩ := hSw
    go_simp
  simp only [Act.put, List.setIfInBounds_toArray, List.set_cons_zero, List.set_cons_succ]
  refine wpAnyH_take (i := 4) (oi := { dst := some 131, op := Op.fieldAddr 35 (Operand.tmp 5) 2, type := 0, pos := "law.go:63", after := #[], guard := none }) (v := .pointer (some ⟨w.heap.size + 1, 2, none⟩)) rfl (by kernel_rfl) (by kernel_rfl) (by kernel_rfl) (fun _ _ _ h => h) (Or.inl ⟨by rfl, ?_⟩) hHeld ?_
  · intro w' hSw
    obtain ⟨z1, z2⟩ := hSw
    go_simp
  simp only [Act.put, List.setIfInBounds_toArray, List.set_cons_zero, List.set_cons_succ]
  refine wpAnyH_take (i := 5) (oi := { dst := some 132, op := Op.load 3 (Operand.tmp 131), type := 3, pos := "law.go:63", after := #[{ on := 4, ground := Ground.data }], guard := none }) (v := .int .i64 nn) rfl (by kernel_rfl) (by kernel_rfl) (by kernel_rfl) (fun _ _ _ h => h) (Or.inl ⟨by rfl, ?_⟩) hHeld ?_
  · intro w' hSw
    obtain ⟨z1, z2⟩ := hSw
    go_simp
  simp only [Act.put, List.setIfInBounds_toArray, List.set_cons_zero, List.set_cons_succ]
  refine wpAnyH_ready (rs := [6]) (by kernel_rfl) (by simp) (AllReadyH.cons rfl (fun K hK => ?_) AllReadyH.nil)
  go_simp
  refine HP.out.mono ?_
  rintro e w1 ⟨rfl, n2, D2, hn2, hd1, hdu2, ho1⟩
  dsimp only
  obtain ⟨hr1, -, ho1'⟩ := HSd.out.prog hd1 ho1
  have hx1 := HXd.out.only ho1 HBL.out
  have HDU := Lib.hid hdu2
  refine hK.out _ _ ⟨hd1.d.cell 0, hx1.c.cell 2⟩ (fun hH1 => ?_)
  clear hK K
  refine wpAnyH_done (by kernel_rfl) ?_ _
  rename_i Kz hKz
  refine hKz _ _ ?_
  obtain ⟨⟨k0, g0⟩, ⟨k1, g1⟩, ⟨k2, g2⟩, ⟨k3, g3⟩⟩ := mem4 hx1.x
  obtain ⟨⟨r0, q0⟩, ⟨r1, q1⟩, ⟨r2, q2⟩, ⟨r3, q3⟩⟩ := mem4 hx1.r
  obtain ⟨y0, y1, y2, y3, y4, y5⟩ := mem6 hx1.c
  have hz0 : w.heap.size < w1.heap.size := hx1.x.lt
  have hz1 : w.heap.size + 1 < w1.heap.size := hx1.c.lt
  have hz2 : w.heap.size + 1 + 1 < w1.heap.size := hx1.r.lt
  have HX1 := Lib.hid hx1
  have hst : St w fb cb mb db sz a' k' bs n2 D2 du (.agg (rdC a1 a2 a3 c1 c2 c3 sz (max nn 0)).toArray) w1 := ⟨hd1, by rw [HFF.out]; exact hr1.fuse, ho1'⟩
  have HSt1 := Lib.hid hst
  clear hx1 hd1 ho1 ho1' hr1 hdu2 hst c0
  go_wp2_with fail
  have hs1 := HSt1.out.cell (i := 3) (u := .int .i64 (max nn 0)) HX1.out.x (Nat.le_refl _)
  have hr2 : Mem (w1.setCell ⟨w.heap.size, 3, none⟩ (.int .i64 (max nn 0))) (w.heap.size + 1 + 1) TRd zRd := HX1.out.r.other (show w.heap.size + 1 + 1 ≠ w.heap.size by omega) _
  have hsf := (hs1).put4 hr2 (by omega) (.slice a1 sz c1) (.slice a2 sz c2) (.slice a3 sz c3) (.int .i64 (max nn 0))
  exact bodyPost_ret (sres2 (sput4 hr2 (.slice a1 sz c1) (.slice a2 sz c2) (.slice a3 sz c3) (.int .i64 (max nn 0))) rfl _ _ rfl Try.underlying29 rfl szRd) rfl ⟨_, _, _, _, _, _, _, rfl, hsf, HDU.out, HZ.out, hn2⟩

set_option maxRecDepth 100000 in
set_option maxHeartbeats 1000000 in
theorem does7 (at_ nn : Int) (ta : Option Addr) (tn tc : Nat) (ca : Option Addr) (cn cc : Nat) (b : UInt8) (a' : Bool) (k' : Int) (h : Dk w fb cb mb db sz a k bs n D) (hr : Rf w v sz bs du (fuseF a k)) (h0 : a' = false → k' = 0) (hf : fuseF a' k' = -1)
    (hP : ∀ W, Dk W fb cb mb db sz a k bs n D → Calls Try.prog 15 #[ptr fb] W fun e w' => e = .returned (.tuple #[]) ∧ PgP fb cb mb db sz n a' k' bs du W w') :
    Calls Try.prog 12 #[ptr db, v, .agg (acC 7 at_ nn ta tn tc ca cn cc b).toArray] w (DoesP w fb cb mb db sz n) := by
  have HSt := Lib.hid (St.start h hr)
  obtain ⟨a1, a2, a3, c1, c2, c3, rfl, -, -, -⟩ := hr
  have HX0 := Lib.hid (Dx.new w (rdC a1 a2 a3 c1 c2 c3 sz (fuseF a k)) (acC 7 at_ nn ta tn tc ca cn cc b) zRd)
  have HB0 := Lib.hid (belowThen (belowThen (belowSelf w (.cells (rdC a1 a2 a3 c1 c2 c3 sz (fuseF a k)).toArray TRd)) (belowSelf _ (.cells (acC 7 at_ nn ta tn tc ca cn cc b).toArray TAc))) (belowSelf _ (.cells zRd.toArray TRd)))
  have HS0 := Lib.hid (HSt.out.below HB0.out)
  have HBL := Lib.hid (show ∀ i ∈ [fb, cb, mb], i < w.heap.size from fun i hi => by
    simp only [List.mem_cons, List.not_mem_nil, or_false] at hi
    rcases hi with rfl | rfl | rfl
    · exact h.f.lt
    · exact h.c.lt
    · exact h.m.lt)
  have HZ := Lib.hid h0
  have hdl := h.d.lt
  have HFF := Lib.hid hf
  have c0 : w.cell? ⟨db, 0, none⟩ = some (ptr fb) := h.d.cell 0
  have hdl1 : db < w.heap.size + 1 := by omega
  have hdl2 : db < w.heap.size + 1 + 1 := by omega
  have HP := Lib.hid (hP _ HS0.out.dk)
  clear h h0 hP hf
  go_enter Try.func12, Try.ntmps12
  go_wp2_with fail
  refine HP.out.mono ?_
  rintro e w1 ⟨rfl, n2, D2, hn2, hd1, hdu2, ho1⟩
  obtain ⟨hr1, hd1, ho1'⟩ := HS0.out.prog hd1 ho1
  have hx1 := HX0.out.only ho1 HBL.out
  have HDU := Lib.hid hdu2
  obtain ⟨⟨k0, g0⟩, ⟨k1, g1⟩, ⟨k2, g2⟩, ⟨k3, g3⟩⟩ := mem4 hx1.x
  obtain ⟨⟨r0, q0⟩, ⟨r1, q1⟩, ⟨r2, q2⟩, ⟨r3, q3⟩⟩ := mem4 hx1.r
  obtain ⟨y0, y1, y2, y3, y4, y5⟩ := mem6 hx1.c
  have hz0 : w.heap.size < w1.heap.size := hx1.x.lt
  have hz1 : w.heap.size + 1 < w1.heap.size := hx1.c.lt
  have hz2 : w.heap.size + 1 + 1 < w1.heap.size := hx1.r.lt
  have HX1 := Lib.hid hx1
  have HD1 := Lib.hid hd1
  have HO1 := Lib.hid ho1'
  have hst : St w fb cb mb db sz a' k' bs n2 D2 du (.agg (rdC a1 a2 a3 c1 c2 c3 sz (-1)).toArray) w1 := ⟨hd1, by rw [HFF.out]; exact hr1.fuse, ho1'⟩
  have HSt1 := Lib.hid hst
  clear hx1 hd1 ho1 ho1' hr1 hdu2 hst c0
  go_wp2_with fail
  have hs1 := HSt1.out.cell (i := 3) (u := .int .i64 (-1)) HX1.out.x (Nat.le_refl _)
  have hr2 : Mem (w1.setCell ⟨w.heap.size, 3, none⟩ (.int .i64 (-1))) (w.heap.size + 1 + 1) TRd zRd := HX1.out.r.other (show w.heap.size + 1 + 1 ≠ w.heap.size by omega) _
  have hsf := (hs1).put4 hr2 (by omega) (.slice a1 sz c1) (.slice a2 sz c2) (.slice a3 sz c3) (.int .i64 (-1))
  exact bodyPost_ret (sres2 (sput4 hr2 (.slice a1 sz c1) (.slice a2 sz c2) (.slice a3 sz c3) (.int .i64 (-1))) rfl _ _ rfl Try.underlying29 rfl szRd) rfl ⟨_, _, _, _, _, _, _, rfl, hsf, HDU.out, HZ.out, hn2⟩
end
end Go.Proofs.Ytjmmbafpiahhiaa
