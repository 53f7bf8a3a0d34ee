/-
  CutterCuts: the walk.
-/
import Derived.Test.YtbjeiiofanpkdaaDoorCut6
namespace Go.Proofs.YtbjeiiofanpkdaaDoor
open Go.RowKit Go.Shelf Crv
attribute [local go_sem] Oper.semAt_some

theorem owns_low {w : World} {B B' : Nat} {e : TypeId} {v : Value} {xs : List Value} (h : Owns w B e v xs) (hb : B' ≤ B) : Owns w B' e v xs := by
  obtain ⟨h1, h2⟩ := h
  refine ⟨h1, ?_⟩
  rcases h2 with h3 | ⟨g, cap, cur, h3, h4, h5⟩
  · exact .inl h3
  · exact .inr ⟨g, cap, cur, h3, Nat.le_trans hb h4, h5⟩
/-- What the loop over all chunks keeps. -/
structure CuB (w : World) (b5 b6 b8 b9 tb : Nat) (t : List Nat) (most : Int) (wv : Value) (full : List (List UInt8)) (k : Nat) (W : World) : Prop where
  m5 : Boxed W b5 3 (.int .i64 most)
  m6 : Boxed W b6 4 (.bool false)
  m8 : Boxed W b8 53 wv
  m9 : Boxed W b9 3 (.int .i64 k)
  own : Owns W w.heap.size 9 wv (full.map tx)
  tab : Tb W tb t
  bel : Below w.heap.size w W
theorem CuB.block {w W W' : World} {b5 b6 b8 b9 tb k : Nat} {t : List Nat} {most : Int} {wv : Value} {full : List (List UInt8)} (h : CuB w b5 b6 b8 b9 tb t most wv full k W)
    (hk : ∀ b cs T fr, W.heap[b]? = some (Obj.cells cs T fr) → (b = b5 ∨ b = b6 ∨ b = b8 ∨ b = b9 ∨ b = tb ∨ wv.ownBlock = some b) → W'.heap[b]? = W.heap[b]?) (hb : Below w.heap.size w W') : CuB w b5 b6 b8 b9 tb t most wv full k W' :=
  ⟨(hk _ _ _ _ h.m5 (by simp)).trans h.m5, (hk _ _ _ _ h.m6 (by simp)).trans h.m6, (hk _ _ _ _ h.m8 (by simp)).trans h.m8, (hk _ _ _ _ h.m9 (by simp)).trans h.m9,
    h.own.of_below (fun g hg => by
      obtain ⟨cs, hcs⟩ := row_tag h.own g hg
      exact hk _ _ _ _ hcs (by simp [hg])),
    ⟨(hk _ _ _ _ h.tab.1 (by simp)).trans h.tab.1, h.tab.2⟩, hb⟩
theorem CuB.below {w W W' : World} {b5 b6 b8 b9 tb k : Nat} {t : List Nat} {most : Int} {wv : Value} {full : List (List UInt8)} (h : CuB w b5 b6 b8 b9 tb t most wv full k W) (hb : Below W.heap.size W W') : CuB w b5 b6 b8 b9 tb t most wv full k W' :=
  h.block (fun b _ _ _ h1 _ => hb.block b (Array.getElem?_eq_some_iff.1 h1).1) (belowThen h.bel hb)
/-- Behind each round. -/
def CuI (w : World) (b5 b6 b8 b9 tb : Nat) (t : List Nat) (most : Int) (wv : Value) (full pre : List (List UInt8)) (W : World) : Prop := CuB w b5 b6 b8 b9 tb t most wv full pre.length W ∧ ∀ j : Nat, 1 ≤ j → j ≤ pre.length → (j : Int) ≠ most
/-- Where the loop was left. -/
def CuX (w : World) (b5 b6 b8 b9 tb : Nat) (t : List Nat) (most : Int) (wv : Value) (full : List (List UInt8)) (c : Code) (pre : List (List UInt8)) (W : World) : Prop := c = .exit 0 ∧ CuB w b5 b6 b8 b9 tb t most wv full pre.length W ∧ (pre.length : Int) = most ∧ 1 ≤ pre.length
theorem CuB.own' {w : World} {b5 b6 b8 b9 tb k N0 : Nat} {t : List Nat} {most : Int} {wv : Value} {full : List (List UInt8)} {A C : World} {row : Option Nat} (h : CuB w b5 b6 b8 b9 tb t most wv full k A) (hg : A.grownBy C row)
    (hr : ∀ r, row = some r → N0 ≤ r ∧ ∃ o : Obj, A.heap[r]? = some o ∧ o.isCells = false) (hN : w.heap.size ≤ N0) : CuB w b5 b6 b8 b9 tb t most wv full k C := by
  have key : ∀ b cs T fr, A.heap[b]? = some (Obj.cells cs T fr) → C.heap[b]? = A.heap[b]? := fun b cs T fr h1 => hg.block b (Array.getElem?_eq_some_iff.1 h1).1 (fun e => by
    obtain ⟨_, o, h2, h3⟩ := hr b e.symm
    rw [h1] at h2
    cases h2
    cases h3)
  refine h.block (fun b cs T fr h1 _ => key b cs T fr h1) ⟨hg.os.trans h.bel.os, hg.tape.trans h.bel.tape, hg.output.trans h.bel.output, Nat.le_trans h.bel.size hg.size, fun b hb => ?_⟩
  refine (hg.block b (Nat.lt_of_lt_of_le hb h.bel.size) (fun e => ?_)).trans (h.bel.block b hb)
  have := (hr b e.symm).1
  omega
theorem CuB.st {w : World} {b5 b6 b8 b9 tb k N0 : Nat} {t : List Nat} {most : Int} {wv : Value} {full : List (List UInt8)} {A C : World} (h : CuB w b5 b6 b8 b9 tb t most wv full k A) (hs : CutSt N0 A C)
    (hN : w.heap.size ≤ N0) (hb : ∀ b, (b = b5 ∨ b = b6 ∨ b = b8 ∨ b = b9 ∨ b = tb ∨ wv.ownBlock = some b) → b < N0) : CuB w b5 b6 b8 b9 tb t most wv full k C :=
  h.block (fun b cs T fr h1 h2 => hs.block b (Array.getElem?_eq_some_iff.1 h1).1 (.inl (hb b h2)))
    ⟨hs.os.trans h.bel.os, hs.tape.trans h.bel.tape, hs.output.trans h.bel.output, Nat.le_trans h.bel.size hs.size, fun b hb => (hs.block b (Nat.lt_of_lt_of_le hb h.bel.size) (.inl (by omega))).trans (h.bel.block b hb)⟩
theorem CuB.turn {w W : World} {b5 b6 b8 b9 tb k : Nat} {t : List Nat} {most : Int} {wv : Value} {full : List (List UInt8)} (h : CuB w b5 b6 b8 b9 tb t most wv full k W) (h5 : b9 ≠ b5) (h6 : b9 ≠ b6) (h8 : b9 ≠ b8) (ht : b9 ≠ tb) (hw : w.heap.size ≤ b9) (k' : Nat) :
    CuB w b5 b6 b8 b9 tb t most wv full k' (W.setCell ⟨b9, 0, none⟩ (.int .i64 k')) := by
  have hg := grownBy_setCell' W b9 (.int .i64 k')
  refine ⟨h.m5.other h5.symm _, h.m6.other h6.symm _, h.m8.other h8.symm _, h.m9.set _, h.own.of_below (fun g hgo => ?_), ⟨(hg.block tb h.tab.1.lt (fun e => ht (by cases e; rfl))).trans h.tab.1, h.tab.2⟩, hg.os.trans h.bel.os, hg.tape.trans h.bel.tape, hg.output.trans h.bel.output, Nat.le_trans h.bel.size hg.size, fun b hb => ?_⟩
  · obtain ⟨cs, hcs⟩ := row_tag h.own g hgo
    refine hg.block g (Array.getElem?_eq_some_iff.1 hcs).1 (fun e => h.m9.not_row (by decide) h.own ?_)
    rw [hgo, e]
  · exact (hg.block b (Nat.lt_of_lt_of_le hb h.bel.size) (fun e => by cases e; omega)).trans (h.bel.block b hb)
theorem CuB.drew {w W : World} {b5 b6 b8 b9 tb k : Nat} {t : List Nat} {most : Int} {wv : Value} {full : List (List UInt8)} (h : CuB w b5 b6 b8 b9 tb t most wv full k W) (n : Nat) : CuB w b5 b6 b8 b9 tb t most wv full k (W.drewN n) := h.below (below_drewN (Below.refl _ _) n)
theorem CuB.turn5 {w W : World} {b5 b6 b8 b9 tb k : Nat} {t : List Nat} {most : Int} {wv : Value} {full : List (List UInt8)} (h : CuB w b5 b6 b8 b9 tb t most wv full k W) (h9 : b5 ≠ b9) (h6 : b5 ≠ b6) (h8 : b5 ≠ b8) (ht : b5 ≠ tb) (hw : w.heap.size ≤ b5) (k' : Int) :
    CuB w b5 b6 b8 b9 tb t k' wv full k (W.setCell ⟨b5, 0, none⟩ (.int .i64 k')) := by
  have hg := grownBy_setCell' W b5 (.int .i64 k')
  refine ⟨h.m5.set _, h.m6.other h6.symm _, h.m8.other h8.symm _, h.m9.other h9.symm _, h.own.of_below (fun g hgo => ?_), ⟨(hg.block tb h.tab.1.lt (fun e => ht (by cases e; rfl))).trans h.tab.1, h.tab.2⟩, hg.os.trans h.bel.os, hg.tape.trans h.bel.tape, hg.output.trans h.bel.output, Nat.le_trans h.bel.size hg.size, fun b hb => ?_⟩
  · obtain ⟨cs, hcs⟩ := row_tag h.own g hgo
    refine hg.block g (Array.getElem?_eq_some_iff.1 hcs).1 (fun e => h.m5.not_row (by decide) h.own ?_)
    rw [hgo, e]
  · exact (hg.block b (Nat.lt_of_lt_of_le hb h.bel.size) (fun e => by cases e; omega)).trans (h.bel.block b hb)
theorem below_set1 {w W : World} {b : Nat} (h : Below w.heap.size w W) (hb : w.heap.size ≤ b) (v : Value) : Below w.heap.size w (W.setCell ⟨b, 0, none⟩ v) := by
  have hg := grownBy_setCell' W b v
  exact ⟨hg.os.trans h.os, hg.tape.trans h.tape, hg.output.trans h.output, Nat.le_trans h.size hg.size, fun k hk => (hg.block k (Nat.lt_of_lt_of_le hk h.size) (fun e => by cases e; omega)).trans (h.block k hk)⟩
theorem results_bool {fn : Func} {p : Tmp} {b : Nat} {v : Bool} (h : fn.results = #[.cell p 4]) (tmps : Array Value) (w : World) (hp : tmps.getD p undef = pV b) (hc : w.cell? ⟨b, 0, none⟩ = some (.bool v)) : (results fn tmps).run Tryd.prog w = .ok (.bool v) w := by
  have hp' : tmps[p]?.getD undef = .pointer (some ⟨b, 0, none⟩) := by simpa using hp
  simp [results, h, hp', asAddr, hc, loadVar, go_sem]
set_option maxHeartbeats 4000000 in
set_option maxRecDepth 100000 in
theorem cutterCuts_walk (s0 : List UInt8) (n most : Int) (w : World) (hc : Consts w) :
    Calls Tryd.prog 9 #[.string (str s0), .int .i64 n, .int .i64 most] w fun e w' => e = .returned (.bool true) ∧ Below w.heap.size w w' := by
  have HCU := Lib.hid (fun k W => (callsIn_wide (n := k)).2 (cutB s0 300 (by omega) W))
  rw [show (300 : Int).toNat = 300 from rfl] at HCU
  have HBY := Lib.hid (fun k W => (callsIn_wide (n := k)).2 (bytes_of (s0.take 300) n W))
  have HC := Lib.hid hc
  have HAW := Lib.hid (fun k W hW => (callsIn_wide (n := k)).2 (awake8_any W hW))
  have HN := Lib.hid (fun k W hW => (callsIn_wide (n := k)).2 (gearNew_any [99, 97, 114, 97, 118, 97, 110] W hW (by decide)))
  obtain ⟨t, ht⟩ : ∃ t, t = gearTab [99, 97, 114, 97, 118, 97, 110] := ⟨_, rfl⟩
  simp only [← ht] at HN
  have q5 := Boxed.new w 3 (.int .i64 most)
  have q6 := Boxed.new (w.alloc (.cells #[.int .i64 most] 3)) 4 (.bool false)
  rw [World.size_alloc] at q6
  have q5' := q5.alloc (.cells #[.bool false] 4)
  have HB0 := Lib.hid (((Below.refl w.heap.size w).alloc (Nat.le_refl _) (.cells #[.int .i64 most] 3)).alloc (by simp) (.cells #[.bool false] 4))
  clear ht hc q5
  refine (callsIn_wide (n := 3)).1 ?_
  refine callsIn_of_wp_marks Tryd.func9 rfl trivial ?_ rfl
  simp only [Tryd.ntmps9, List.size_toArray, List.length_cons, List.length_nil, Nat.reduceAdd, Nat.reduceSub, Array.replicate_succ, Array.replicate_zero, List.push_toArray, List.append_toArray, List.nil_append, List.cons_append]
  gi_wp2_with fail
  refine ⟨trivial, ?_⟩
  refine (HCU.out _ _).mono ?_
  rintro e w' ⟨rfl, rfl⟩
  gi_wp2_with fail
  refine ⟨trivial, ?_⟩
  refine (HBY.out _ _).mono ?_
  rintro e w3 ⟨s, rfl, hsl, hb3⟩
  have hs15 : s.length ≤ 1500 := by omega
  have q5b : Boxed w3 w.heap.size 3 (.int .i64 most) := (hb3.block _ q5'.lt).trans q5'
  have q6b : Boxed w3 (w.heap.size + 1) 4 (.bool false) := (hb3.block _ q6.lt).trans q6
  have HB3 := Lib.hid (show Below w.heap.size w w3 from HB0.out.trans (hb3.mono (by simp; omega)))
  clear hsl hb3 HCU HBY q5' q6 HB0
  gi_wp2_with fail
  refine ⟨trivial, ?_⟩
  refine (HAW.out _ _ (HC.out.below HB3.out)).mono ?_
  rintro e w4 ⟨rfl, hb4⟩
  have q5 : Boxed w4 w.heap.size 3 (.int .i64 most) := (hb4.block _ q5b.lt).trans q5b
  have q6 : Boxed w4 (w.heap.size + 1) 4 (.bool false) := (hb4.block _ q6b.lt).trans q6b
  have HB4 := Lib.hid (belowThen HB3.out hb4)
  clear hb4 HB3 q5b q6b
  gi_wp2_with fail
  refine ⟨trivial, ?_⟩
  refine (HN.out _ _ (HC.out.below HB4.out)).mono ?_
  rintro e w5 ⟨rfl, htb, hb5⟩
  have r5 : Boxed w5 w.heap.size 3 (.int .i64 most) := (hb5.block _ q5.lt).trans q5
  have r6 : Boxed w5 (w.heap.size + 1) 4 (.bool false) := (hb5.block _ q6.lt).trans q6
  have HB5 := Lib.hid (belowThen HB4.out hb5)
  obtain ⟨tb, htbe⟩ : ∃ b, b = w4.heap.size := ⟨_, rfl⟩
  rw [← htbe] at htb
  have htz : w.heap.size + 1 < tb := by rw [htbe]; exact q6.lt
  simp only [← htbe]
  have HRC := Lib.hid (fun k => (callsIn_wide (n := k)).2 (refCut_any tb t s w5 htb (by omega)))
  have HLC := Lib.hid (length_cuts t s)
  have HT5 := Lib.hid htb
  obtain ⟨full, hfull⟩ : ∃ l, l = cuts t s := ⟨_, rfl⟩
  rw [← hfull] at HRC HLC
  have HFU := Lib.hid hfull
  clear hb5 htbe htb HB4 HC q5 q6 HN HAW hfull
  gi_wp2_with fail
  refine ⟨trivial, ?_⟩
  refine (HRC.out _).mono ?_
  rintro e w6 ⟨wv, rfl, how, hb6⟩
  obtain ⟨aw, capw, hwv, -⟩ := how.form
  rw [List.length_map] at hwv
  have s5 : Boxed w6 w.heap.size 3 (.int .i64 most) := (hb6.block _ r5.lt).trans r5
  have s6 : Boxed w6 (w.heap.size + 1) 4 (.bool false) := (hb6.block _ r6.lt).trans r6
  have HT6 := Lib.hid (HT5.out.below hb6)
  have HB6 := Lib.hid (belowThen HB5.out hb6)
  have hz5 := HB5.out.size
  have HO6 := Lib.hid (owns_low how hz5)
  subst hwv
  clear how hb6 r5 r6 HRC HB5 HT5
  gi_wp2_with fail
  have hcb : CuB w w.heap.size (w.heap.size + 1) w6.heap.size (w6.heap.size + 1) tb t most (.slice aw full.length capw) full 0 ((w6.alloc (.cells #[.slice aw full.length capw] 53)).alloc (.cells #[.int .i64 0] 3)) := by
    refine ⟨(s5.alloc _).alloc _, (s6.alloc _).alloc _, (Boxed.new w6 _ _).alloc _, ?_, World.ownsRow.alloc (World.ownsRow.alloc HO6.out _) _, ?_, ?_⟩
    · have h := Boxed.new (w6.alloc (.cells #[.slice aw full.length capw] 53)) 3 (.int .i64 0)
      rw [World.size_alloc] at h
      exact h
    · exact HT6.out.below (((Below.refl _ w6).alloc (Nat.le_refl _) _).alloc (by simp) _)
    · exact belowThen HB6.out (((Below.refl _ w6).alloc (Nat.le_refl _) _).alloc (by simp) _)
  have hz6 : w.heap.size + 1 < w6.heap.size := s6.lt
  have htb6 : tb < w6.heap.size := HT6.out.1.lt
  have haw6 : ∀ g, (Value.slice aw full.length capw).ownBlock = some g → g < w6.heap.size := fun g hg => by
    obtain ⟨cs, hcs⟩ := row_tag HO6.out g hg
    exact (Array.getElem?_eq_some_iff.1 hcs).1
  have HTZ := Lib.hid (show w.heap.size + 1 < tb from htz)
  have HZW := Lib.hid (And.intro hz6 (And.intro htb6 haw6))
  have HCB := Lib.hid hcb
  clear hcb HO6 HB6 HT6 s5 s6 hz6 htb6 haw6
  refine ⟨trivial, ?_⟩
  refine ((callsIn_wide (n := 2)).2 (cutAll_any tb t s _ HCB.out.tab)).mono ?_
  rintro e w8 ⟨tb2, sb, rfl, ht8, hs8, hb8⟩
  have HB8 := Lib.hid (HCB.out.below hb8)
  have HS8 := Lib.hid (show w6.heap.size + 2 ≤ w8.heap.size by
    have := hb8.size
    simp at this
    omega)
  have HSQ := Lib.hid (all1_seq 2 tb2 sb t s w8 ht8 hs8 (by omega))
  rw [← HFU.out] at HSQ
  clear hb8 ht8 hs8 HCB
  gi_wp2_with fail
  refine range_by rfl (by omega) (gf := 65) (lb := #[pV tb2, pV sb]) rfl trivial (enters_of Tryd.func65 (by kernel_rfl) rfl) HSQ.out
    (fun A B h => h.keeps) (fun A B C h h' => h.trans h') (fun W l o o' _ h1 h2 => CutKp.put h1 h2) (fun _ => rfl)
    (CuI w w.heap.size (w.heap.size + 1) w6.heap.size (w6.heap.size + 1) tb t most (.slice aw full.length capw) full)
    (CuX w w.heap.size (w.heap.size + 1) w6.heap.size (w6.heap.size + 1) tb t most (.slice aw full.length capw) full)
    (fun pre A C row hi hg hr => ⟨hi.1.own' hg hr (HB8.out.bel.size), hi.2⟩)
    (fun pre A C hi hst => ⟨hi.1.st hst HB8.out.bel.size (fun b hb => ?bound), hi.2⟩)
    (fun c pre A C row hi hg hr => ⟨hi.1, hi.2.1.own' hg hr (HB8.out.bel.size), hi.2.2⟩) ⟨HB8.out, fun j h1 h2 => absurd h2 (by simp; omega)⟩
    (fun x => { tmps := #[tx s, .int .i64 n, .int .i64 most, undef, undef, pV w.heap.size, pV (w.heap.size + 1), pV tb, pV w6.heap.size, pV (w6.heap.size + 1), tx x, tx s0, tx (s0.take 300), .int .i64 n, tx s, .bool true, .bool false, pV tb, pV tb, pV tb, .slice (some ⟨tb, 0, none⟩) 256 256, tx s, .slice aw full.length capw, pV tb, tx s, .func (.func 65) #[] #[pV tb2, pV sb], tx x, undef, undef, undef, undef, undef, undef, undef, undef, undef, undef, undef, undef, undef, undef, undef, undef, undef, undef, undef, undef, undef, undef, undef, undef, undef, undef, undef, undef, undef, undef, undef, undef, undef, undef, undef, undef, undef], defers := [] }) ?assign ?body ?done ?stop
  case bound =>
    have h8 := HS8.out
    obtain ⟨h1, h2, h3⟩ := HZW.out
    rcases hb with h | h | h | h | h | h
    · omega
    · omega
    · omega
    · omega
    · omega
    · have := h3 b h
      omega
  case assign =>
    intro l x W K hK
    gi_wp2
    exact hK
  case body =>
    rintro l pre x W ⟨hcb, hne⟩ hpre
    obtain ⟨h61, h62, h63⟩ := HZW.out
    have hc9 := hcb.m9.cell
    have hf9 := hcb.m9.frozen
    have hc8 := hcb.m8.cell
    have hc5 := hcb.m5.cell
    have hpl : pre.length < full.length := by
      have h1 := hpre.length_le
      rw [List.length_append, List.length_singleton] at h1
      omega
    have hfl : full.length ≤ 1500 := Nat.le_trans HLC.out hs15
    have hgx : full.getD pre.length [] = x := by
      obtain ⟨tl, htl⟩ := hpre
      rw [← htl]
      simp
    have hTT := hcb.turn (by omega) (by omega) (by omega) (by omega) (by omega) (pre.length + 1)
    have HT9 := Lib.hid hTT
    have c9 := hTT.m9.cell
    have c5 := hTT.m5.cell
    have HKE := Lib.hid (show KeepsFrom w8.heap.size W (W.setCell ⟨w6.heap.size + 1, 0, none⟩ (.int .i64 ((pre.length + 1 : Nat) : Int))) from KeepsFrom.of_grownBy (grownBy_setCell' _ _ _) (fun j hj => by cases hj; have := HS8.out; omega))
    have HKP := Lib.hid (show CutKp W (W.setCell ⟨w6.heap.size + 1, 0, none⟩ (.int .i64 ((pre.length + 1 : Nat) : Int))) from CutKp.grown (grownBy_setCell' _ _ _) (fun g hg => by
      cases hg
      exact ⟨_, _, _, hcb.m9, by decide, by decide, by decide⟩))
    rw [Int.natCast_add, show ((1 : Nat) : Int) = 1 from rfl] at c9 HKE HKP
    obtain ⟨a0, cap0, hv0, hcs⟩ := Txs.of_owns hcb.own
    injection hv0 with hv1 hv2 hv3
    subst hv1 hv3
    obtain ⟨gw, ow, rfl, hcw⟩ := hcs pre.length hpl
    rw [hgx] at hcw
    have hd : decide ((full.length : Int) ≤ (pre.length : Int)) = false := by simp; omega
    have hd2 : decide (pre.length < full.length) = true := by simpa using hpl
    have HNE := Lib.hid hne
    clear hv2 hgx hcs hTT hcb hne hpre
    by_cases hm : (pre.length : Int) + 1 = most
    · have hq : (((pre.length : Int) + 1) == most) = true := by simpa using hm
      have HM := Lib.hid hm
      clear hm
      gi_wp2_with fail
      refine ⟨HKE.out, rfl, ?_, ?_, by simp⟩
      · rw [List.length_append, List.length_singleton]
        exact HT9.out
      · rw [List.length_append, List.length_singleton, ← HM.out]
        rfl
    · have hq : (((pre.length : Int) + 1) == most) = false := by simpa using hm
      gi_wp2_with fail
      refine ⟨HKE.out, HKP.out, ?_, fun j h1 h2 => ?_⟩
      · rw [List.length_append, List.length_singleton]
        exact HT9.out
      · rw [List.length_append, List.length_singleton] at h2
        rcases Nat.lt_or_ge pre.length j with h3 | h3
        · have : j = pre.length + 1 := by omega
          subst this
          exact hm
        · exact HNE.out j h1 h3
  case done =>
    rintro D W hD ⟨hcb, hne⟩ hK
    have hz := HZW.out
    have htbz : w.heap.size + 1 < tb := HTZ.out
    have hend : ¬ most < 1 → (full.length : Int) < most := fun h1 => by
      rcases Int.lt_or_le (full.length : Int) most with h2 | h2
      · exact h2
      · exact absurd (Int.toNat_of_nonneg (by omega : (0 : Int) ≤ most)) (hne most.toNat (by omega) (by omega))
    obtain ⟨W5, hW5⟩ : ∃ X, X = W.setCell ⟨w.heap.size, 0, none⟩ (.int .i64 (full.length : Int)) := ⟨_, rfl⟩
    have HCB := Lib.hid (show CuB w w.heap.size (w.heap.size + 1) w6.heap.size (w6.heap.size + 1) tb t (full.length : Int) (.slice aw full.length capw) full full.length W5 by
      rw [hW5]
      exact hcb.turn5 (by omega) (by omega) (by omega) (by omega) (by omega) _)
    have HK := Lib.hid (show W5.heap[D]? = some (.deferred (some [])) by
      rw [hW5]
      exact ((grownBy_setCell' _ _ _).block D (Array.getElem?_eq_some_iff.1 hK).1 (fun e => by cases e; have := HB8.out.m5.lt; omega)).trans hK)
    have c8 := hcb.m8.cell
    have c5 := hcb.m5.cell
    have f5 := hcb.m5.frozen
    have HW5 := Lib.hid hW5
    clear hne hK hcb hW5 hz htbz
    have HFL := Lib.hid (show full.length ≤ 1099511627776 by have := HLC.out; omega)
    by_cases hA : most < 1
    · have hA2 : decide (most < 1) = true := by simpa using hA
      clear hend hA
      gi_wp2_with fail
      rw [← HW5.out]
      clear c5 c8 f5 hA2
      have c9 := HCB.out.m9.cell
      have c5 := HCB.out.m5.cell
      have c8 := HCB.out.m8.cell
      have HCUT := Lib.hid (fun k => (callsIn_wide (n := k)).2 (cut_any tb t s W5.drew HCB.out.tab (by omega)))
      rw [← HFU.out] at HCUT
      have hmx : Tryd.prog.follows .mixedOrders = true := by kernel_rfl
      rename_i K HKK
      refine wpIn_mono (Q := Exit.then K (fun _ _ _ => False)) ?_ (fun e a W h => by cases e <;> first | exact h | exact h.elim)
      gi_region_with_o (first
        | (refine ⟨trivial, ?_⟩; gi_at_call 43; refine (HCUT.out _).mono ?_; rintro e w9 ⟨vz, rfl, hoz, hb9⟩; have HC9 := Lib.hid (HCB.out.below (show Below W5.heap.size W5 w9 from ⟨hb9.os, hb9.tape, hb9.output, hb9.size, hb9.block⟩)); have HSA := Lib.hid (fun k => (callsIn_wide (n := k)).2 (same_any vz (.slice aw full.length capw) full w9 (Txs.of_owns hoz) (Txs.of_owns HC9.out.own) HFL.out)); have c8b := HC9.out.m8.cell; have HK9 := Lib.hid ((hb9.block D (Array.getElem?_eq_some_iff.1 HK.out).1).trans HK.out); clear hoz hb9)
        | (refine ⟨trivial, ?_⟩; gi_at_call 42; refine (HSA.out _).mono ?_; rintro e w10 ⟨rfl, hb10⟩; have HC10 := Lib.hid (HC9.out.below hb10); have c6 := HC10.out.m6.cell; have f6 := HC10.out.m6.frozen; have HK10 := Lib.hid ((hb10.block D (Array.getElem?_eq_some_iff.1 HK9.out).1).trans HK9.out); clear hb10))
      all_goals
        refine HKK _ _ ?_
        gi_wp2_with fail
        have hz8 := HB8.out.m6.lt
        have hKD : (w10.setCell ⟨w.heap.size + 1, 0, none⟩ (.bool true)).heap[D]? = some (.deferred (some [])) := ((grownBy_setCell' _ _ _).block D (Array.getElem?_eq_some_iff.1 HK10.out).1 (fun e => by cases e; omega)).trans HK10.out
        refine ⟨by simp, .inl ⟨_, _, rfl, run_takeDeferred hKD, ?_⟩⟩
        refine ⟨_, results_bool (v := true) (b := w.heap.size + 1) rfl _ _ rfl ?_, rfl, ?_⟩
        · exact ((HC10.out.m6.set (.bool true)).kept (grownBy_putObj' _ D _) (fun e => by cases e; omega)).cell
        · exact (below_set1 HC10.out.bel (Nat.le_succ _) _).trans (belowK_b (w := w) (Nat.le_refl _) _ D _ _ (by omega) hKD rfl rfl)
    · have hB : decide ((full.length : Int) < most) = true := by simpa using hend hA
      have hA2 : decide (most < 1) = false := by simpa using hA
      clear hend hA
      gi_wp2_with fail
      rw [← HW5.out]
      clear c5 c8 f5 hA2 hB
      have c9 := HCB.out.m9.cell
      have c5 := HCB.out.m5.cell
      have c8 := HCB.out.m8.cell
      have HCUT := Lib.hid (fun k => (callsIn_wide (n := k)).2 (cut_any tb t s W5.drew HCB.out.tab (by omega)))
      rw [← HFU.out] at HCUT
      have hmx : Tryd.prog.follows .mixedOrders = true := by kernel_rfl
      rename_i K HKK
      refine wpIn_mono (Q := Exit.then K (fun _ _ _ => False)) ?_ (fun e a W h => by cases e <;> first | exact h | exact h.elim)
      gi_region_with_o (first
        | (refine ⟨trivial, ?_⟩; gi_at_call 43; refine (HCUT.out _).mono ?_; rintro e w9 ⟨vz, rfl, hoz, hb9⟩; have HC9 := Lib.hid (HCB.out.below (show Below W5.heap.size W5 w9 from ⟨hb9.os, hb9.tape, hb9.output, hb9.size, hb9.block⟩)); have HSA := Lib.hid (fun k => (callsIn_wide (n := k)).2 (same_any vz (.slice aw full.length capw) full w9 (Txs.of_owns hoz) (Txs.of_owns HC9.out.own) HFL.out)); have c8b := HC9.out.m8.cell; have HK9 := Lib.hid ((hb9.block D (Array.getElem?_eq_some_iff.1 HK.out).1).trans HK.out); clear hoz hb9)
        | (refine ⟨trivial, ?_⟩; gi_at_call 42; refine (HSA.out _).mono ?_; rintro e w10 ⟨rfl, hb10⟩; have HC10 := Lib.hid (HC9.out.below hb10); have c6 := HC10.out.m6.cell; have f6 := HC10.out.m6.frozen; have HK10 := Lib.hid ((hb10.block D (Array.getElem?_eq_some_iff.1 HK9.out).1).trans HK9.out); clear hb10))
      all_goals
        refine HKK _ _ ?_
        gi_wp2_with fail
        have hz8 := HB8.out.m6.lt
        have hKD : (w10.setCell ⟨w.heap.size + 1, 0, none⟩ (.bool true)).heap[D]? = some (.deferred (some [])) := ((grownBy_setCell' _ _ _).block D (Array.getElem?_eq_some_iff.1 HK10.out).1 (fun e => by cases e; omega)).trans HK10.out
        refine ⟨by simp, .inl ⟨_, _, rfl, run_takeDeferred hKD, ?_⟩⟩
        refine ⟨_, results_bool (v := true) (b := w.heap.size + 1) rfl _ _ rfl ?_, rfl, ?_⟩
        · exact ((HC10.out.m6.set (.bool true)).kept (grownBy_putObj' _ D _) (fun e => by cases e; omega)).cell
        · exact (below_set1 HC10.out.bel (Nat.le_succ _) _).trans (belowK_b (w := w) (Nat.le_refl _) _ D _ _ (by omega) hKD rfl rfl)
  case stop =>
    rintro D c pre W5 hD hpre ⟨rfl, hcb, hm, h1⟩ hK
    obtain ⟨K', hK'⟩ : ∃ K' : Nat, K' = pre.length := ⟨_, rfl⟩
    rw [← hK'] at hcb hm h1
    have hKl : K' ≤ full.length := by have := hpre.length_le; omega
    have HFL := Lib.hid (show full.length ≤ 1099511627776 by have := HLC.out; omega)
    have hA2 : decide (most < 1) = false := by simp; omega
    have hB : decide ((full.length : Int) < most) = false := by simp; omega
    have HCB := Lib.hid hcb
    have HK := Lib.hid hK
    have c5 := hcb.m5.cell
    have c8 := hcb.m8.cell
    have hqq : ((K' : Int) == most) = true := by simpa using hm
    clear hpre hm h1 hK' hcb hK hKl
    · gi_wp2_with fail
      clear c5 c8 hA2 hB
      have c9 := HCB.out.m9.cell
      have c5 := HCB.out.m5.cell
      have c8 := HCB.out.m8.cell
      have HCUT := Lib.hid (fun k => (callsIn_wide (n := k)).2 (cut_any tb t s W5.drew HCB.out.tab (by omega)))
      rw [← HFU.out] at HCUT
      have hmx : Tryd.prog.follows .mixedOrders = true := by kernel_rfl
      rename_i K HKK
      refine wpIn_mono (Q := Exit.then K (fun _ _ _ => False)) ?_ (fun e a W h => by cases e <;> first | exact h | exact h.elim)
      gi_region_with_o (first
        | (refine ⟨trivial, ?_⟩; gi_at_call 43; refine (HCUT.out _).mono ?_; rintro e w9 ⟨vz, rfl, hoz, hb9⟩; have HC9 := Lib.hid (HCB.out.below (show Below W5.heap.size W5 w9 from ⟨hb9.os, hb9.tape, hb9.output, hb9.size, hb9.block⟩)); have HSA := Lib.hid (fun k => (callsIn_wide (n := k)).2 (same_any vz (.slice aw full.length capw) full w9 (Txs.of_owns hoz) (Txs.of_owns HC9.out.own) HFL.out)); have c8b := HC9.out.m8.cell; have HK9 := Lib.hid ((hb9.block D (Array.getElem?_eq_some_iff.1 HK.out).1).trans HK.out); clear hoz hb9)
        | (refine ⟨trivial, ?_⟩; gi_at_call 42; refine (HSA.out _).mono ?_; rintro e w10 ⟨rfl, hb10⟩; have HC10 := Lib.hid (HC9.out.below hb10); have c6 := HC10.out.m6.cell; have f6 := HC10.out.m6.frozen; have HK10 := Lib.hid ((hb10.block D (Array.getElem?_eq_some_iff.1 HK9.out).1).trans HK9.out); clear hb10))
      all_goals
        refine HKK _ _ ?_
        gi_wp2_with fail
        have hz8 := HB8.out.m6.lt
        have hKD : (w10.setCell ⟨w.heap.size + 1, 0, none⟩ (.bool true)).heap[D]? = some (.deferred (some [])) := ((grownBy_setCell' _ _ _).block D (Array.getElem?_eq_some_iff.1 HK10.out).1 (fun e => by cases e; omega)).trans HK10.out
        refine ⟨by simp, .inl ⟨_, _, rfl, run_takeDeferred hKD, ?_⟩⟩
        refine ⟨_, results_bool (v := true) (b := w.heap.size + 1) rfl _ _ rfl ?_, rfl, ?_⟩
        · exact ((HC10.out.m6.set (.bool true)).kept (grownBy_putObj' _ D _) (fun e => by cases e; omega)).cell
        · exact (below_set1 HC10.out.bel (Nat.le_succ _) _).trans (belowK_b (w := w) (Nat.le_refl _) _ D _ _ (by omega) hKD rfl rfl)
end Go.Proofs.YtbjeiiofanpkdaaDoor
