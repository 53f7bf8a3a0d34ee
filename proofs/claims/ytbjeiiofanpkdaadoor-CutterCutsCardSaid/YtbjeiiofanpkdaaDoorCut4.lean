/-
  Package cutter: All's iterator.
-/
import Derived.Test.YtbjeiiofanpkdaaDoorCut3
import Derived.Test.YtbjeiiofanpkdaaDoorRng
import Derived.Shelf.Abstract
import Derived.Shelf.RegionOpen
import Derived.OwnWalkIn
import Derived.TacticsInMore
import Derived.LoopNIn
import Derived.LoopIn
namespace Go.Proofs.YtbjeiiofanpkdaaDoor
open Go.RowKit Go.Shelf Crv
attribute [local go_sem] Oper.semAt_some

/-- What the iterator does between two rounds: of what lay there it turns rolls alone, and none below N0. -/
structure CutSt (N0 : Nat) (A B : World) : Prop where
  os : B.os = A.os
  tape : B.tape = A.tape
  output : B.output = A.output
  size : A.heap.size ≤ B.heap.size
  block : ∀ b, b < A.heap.size → (b < N0 ∨ ¬ ∃ cs fr, A.heap[b]? = some (.cells cs 92 fr)) → B.heap[b]? = A.heap[b]?
theorem CutSt.of_below {N0 : Nat} {A B : World} (h : Below A.heap.size A B) : CutSt N0 A B := ⟨h.os, h.tape, h.output, h.size, fun b hb _ => h.block b hb⟩
theorem CutSt.of_roll {N0 rb tb v n : Nat} {A B : World} (hg : A.grownBy B (some rb)) (hr : Rl A rb tb v n) (hN : N0 ≤ rb) : CutSt N0 A B := ⟨hg.os, hg.tape, hg.output, hg.size, fun b hb h => hg.block b hb (fun e => by
  injection e with e
  subst e
  rcases h with h | h
  · omega
  · exact h ⟨_, _, hr⟩)⟩
theorem CutSt.trans {N0 : Nat} {A B C : World} (h : CutSt N0 A B) (h' : CutSt N0 B C) : CutSt N0 A C := ⟨h'.os.trans h.os, h'.tape.trans h.tape, h'.output.trans h.output, Nat.le_trans h.size h'.size, fun b hb hc => by
  have e := h.block b hb hc
  exact (h'.block b (Nat.lt_of_lt_of_le hb h.size) (by rw [e]; exact hc)).trans e⟩
/-- What a round keeps: tables, rolls, cutters. -/
def CutKp (A B : World) : Prop := ∀ (b : Nat) (cs : Array Value) (t : TypeId) (fr : Nat × Nat), (t = 89 ∨ t = 92 ∨ t = 98) → A.heap[b]? = some (Obj.cells cs t fr) → B.heap[b]? = some (Obj.cells cs t fr)
theorem CutKp.tb {A B : World} {tb : Nat} {t : List Nat} (h : CutKp A B) (ht : Tb A tb t) : Tb B tb t := ⟨h _ _ _ _ (.inl rfl) ht.1, ht.2⟩
theorem CutKp.rl {A B : World} {rb tb v n : Nat} (h : CutKp A B) (hr : Rl A rb tb v n) : Rl B rb tb v n := h _ _ _ _ (.inr (.inl rfl)) hr
theorem CutKp.cu {A B : World} {cb rb : Nat} {hv : Value} (h : CutKp A B) (hr : Cu A cb rb hv) : Cu B cb rb hv := h _ _ _ _ (.inr (.inr rfl)) hr
/-- The iterator's own things. -/
def ItW (N0 cb rb tb : Nat) (t : List Nat) (r : List UInt8) (w : World) : Prop := ∃ v n, Tb w tb t ∧ Rl w rb tb v n ∧ Cu w cb rb (.slice none 0 0) ∧ N0 ≤ rb ∧ (r ≠ [] → v = 0 ∧ n = 0)
theorem adv_rest (t : List Nat) (r : List UInt8) : r.drop (endOf t r) ≠ [] → advV t 0 0 r = 0 ∧ advC t 0 0 r = 0 := by
  unfold endOf advK advV advC
  cases h : firstStop t 0 0 r with
  | some i => exact fun _ => ⟨rfl, rfl⟩
  | none => intro hn; exact absurd (by simp) hn
set_option maxRecDepth 100000 in
set_option maxHeartbeats 1000000 in
theorem all1_seq (n tb sb : Nat) (t : List Nat) (s : List UInt8) (w : World) (ht : Tb w tb t) (hs : Mem w sb 9 [tx s]) (hsl : s.length ≤ 1000000) :
    SeqBy Fence.wide n Tryd.prog 65 #[pV tb, pV sb] (fun x : List UInt8 => #[tx x]) (CutSt w.heap.size) CutKp (cuts t s) w := fun l J Jx W hW hJ hY h0 => by
  have HJ := Lib.hid hJ
  have HY := Lib.hid hY
  have HN := Lib.hid (fun n W ht => (callsIn_wide (n := n)).2 (cutNew_any tb t W ht))
  have HT := Lib.hid (ht.below hW)
  have hcs : W.cell? ⟨sb, 0, none⟩ = some (tx s) := (hs.below hW hs.lt).cell 0
  have HSB := Lib.hid (show sb < W.drew.heap.size from Nat.lt_of_lt_of_le hs.lt hW.size)
  have H0 := Lib.hid h0
  clear hJ hY ht h0 hs
  refine callsIn_of_wp Tryd.func65 rfl trivial ?_ rfl
  simp only [Tryd.ntmps65, List.size_toArray, List.length_cons, List.length_nil, Nat.reduceAdd, Nat.reduceSub, Array.replicate_succ, Array.replicate_zero, List.push_toArray, List.append_toArray, List.nil_append, List.cons_append]
  gi_wp2
  have hmx : Tryd.prog.follows .mixedOrders = true := by kernel_rfl
  gi_region_with_o (refine ⟨trivial, fun h => absurd h (by decide), ?_⟩; gi_at_call 44; refine (HN.out _ W.drew HT.out).mono ?_; rintro e w1 ⟨tb1, rb, cb, rfl, ht1, hr1, hc1, hb1, k1, k2, k3⟩; have hcs1 : w1.cell? ⟨sb, 0, none⟩ = some (tx s) := (hb1.cell (p := ⟨sb, 0, none⟩) HSB.out).trans hcs)
  all_goals
    have HB1 := Lib.hid (show CutSt w.heap.size W w1 from ⟨hb1.os, hb1.tape, hb1.output, hb1.size, fun b hb _ => hb1.block b hb⟩)
    have HIT := Lib.hid (show ItW w.heap.size cb rb tb1 t s w1 from ⟨0, 0, ht1, hr1, hc1, Nat.le_trans hW.size k2, fun _ => ⟨rfl, rfl⟩⟩)
    have HJ1 := Lib.hid (HJ.out [] W w1 H0.out HB1.out)
    clear hb1 ht1 hr1 hc1 k1 k2 k3 hcs1 HB1
    simp only [Act.put, List.getElem_toArray, List.getElem_cons_zero, List.getElem_cons_succ, List.setIfInBounds_toArray, List.set_cons_zero, List.set_cons_succ]
    gi_wp2
    gi_loopw [5] (fun r wr => ∃ (pre : List (List UInt8)) (x : List UInt8), r = tx x ∧ x.length ≤ 1000000 ∧ Hid (cuts t s = pre ++ cuts t x) ∧ Hid (ItW w.heap.size cb rb tb1 t x wr) ∧ Hid (J pre wr)) (fun r _ => match r with | .string x => x.size | _ => 0)
    case atStart => exact ⟨[], s, rfl, hsl, Lib.hid rfl, HIT, HJ1⟩
    case round =>
      obtain ⟨pre, r, rfl, hrl, HC, HI, HJR⟩ := hrel
      clear HIT HJ1
      by_cases hr0 : r = []
      · subst hr0
        have HF := Lib.hid (show cuts t s = pre by rw [HC.out, cuts_nil, List.append_nil])
        gi_wp2
        go_end0
        exact ⟨⟨_, rfl⟩, .inl (by rw [HF.out]; exact HJR.out)⟩
      · have hpos : 0 < r.length := List.length_pos_iff.2 hr0
        have hgt : decide ((0 : Int) < (r.length : Int)) = true := by simp; omega
        obtain ⟨v, m, ht2, hr2, hc2, hN2, hz2⟩ := HI.out
        obtain ⟨rfl, rfl⟩ := hz2 hr0
        have HR2 := Lib.hid hr2
        have HADV := Lib.hid (fun k => (callsIn_wide (n := k)).2 (advance_any cb rb tb1 0 0 (.slice none 0 0) t r wr ht2 hr2 hc2 (by omega) (by omega) (by omega)))
        have HRS := Lib.hid (adv_rest t r)
        have HCC := Lib.hid (show cuts t s = (pre ++ [r.take (endOf t r)]) ++ cuts t (r.drop (endOf t r)) by rw [HC.out, cuts_cons t hr0, List.append_assoc]; rfl)
        have hle := endOf_le t r
        have hep := endOf_pos t hr0
        rw [show advK t 0 0 r = endOf t r from rfl] at HADV
        obtain ⟨e, he⟩ : ∃ e, e = endOf t r := ⟨_, rfl⟩
        rw [← he] at HADV HRS HCC hle hep
        have hsl1 := fun W => slice_str_to (P := Tryd.prog) Tryd.underlying9 r .i64 e hle W
        have hsl2 := fun W => slice_str_from (P := Tryd.prog) Tryd.underlying9 r .i64 e hle W
        have hdl : (r.drop e).length < r.length := by rw [List.length_drop]; omega
        obtain ⟨x, hx⟩ : ∃ x, x = r.take e := ⟨_, rfl⟩
        rw [← hx] at HCC
        simp only [← hx] at hsl1
        obtain ⟨y, hy⟩ : ∃ y, y = r.drop e := ⟨_, rfl⟩
        rw [← hy] at HCC HRS hdl
        simp only [← hy] at hsl2
        obtain ⟨dd, hdd⟩ : ∃ d, d = advD t 0 0 r := ⟨_, rfl⟩
        rw [← hdd] at HADV
        obtain ⟨va, hva⟩ : ∃ d, d = advV t 0 0 r := ⟨_, rfl⟩
        rw [← hva] at HADV HRS
        obtain ⟨ca, hca⟩ : ∃ d, d = advC t 0 0 r := ⟨_, rfl⟩
        rw [← hca] at HADV HRS
        have HPF := Lib.hid (show pre ++ [x] <+: cuts t s from ⟨cuts t y, HCC.out.symm⟩)
        have HRL := Lib.hid hrl
        clear he hx hy hdd hva hca HC ht2 hr2 hc2 hz2 hr0 HI hrl
        gi_wp2_with fail
        refine ⟨trivial, fun h => absurd h (by decide), ?_⟩
        refine (HADV.out _).mono ?_
        rintro e1 w4 ⟨rfl, ht4, hr4, hc4, hg4⟩
        have HJ4 := Lib.hid (HJ.out pre wr w4 HJR.out (CutSt.of_roll hg4 HR2.out hN2))
        have HK4 := Lib.hid (show Tb w4 tb1 t ∧ Rl w4 rb tb1 va ca ∧ Cu w4 cb rb (.slice none 0 0) from ⟨ht4, hr4, hc4⟩)
        obtain ⟨fn, tmps, assign, body, hyy, hR⟩ := HY.out pre x w4 HJ4.out HPF.out
        have HRR := Lib.hid hR
        clear ht4 hr4 hc4 hg4 hR
        gi_wp2_with fail
        refine ⟨fun h => absurd h (by decide), ?_⟩
        refine HRR.out.mono ?_
        rintro e1 W5 (⟨rfl, hJ5, hk5⟩ | ⟨rfl, hJx5⟩)
        · have HI5 := Lib.hid (show ItW w.heap.size cb rb tb1 t y W5 from ⟨va, ca, hk5.tb HK4.out.1, hk5.rl HK4.out.2.1, hk5.cu HK4.out.2.2, hN2, HRS.out⟩)
          have HJ5 := Lib.hid hJ5
          have HC5 := HCC
          have hrl := HRL.out
          clear hJ5 hk5 hyy hsl1
          gi_wp2_with fail
          refine ⟨⟨pre ++ [x], y, rfl, by omega, HC5, HI5, HJ5⟩, ?_⟩
          exact hdl
        · have HJX := Lib.hid (show ∃ p, p <+: cuts t s ∧ Jx p W5 from ⟨_, HPF.out, hJx5⟩)
          clear hJx5 hyy
          gi_wp2_with fail
          refine bodyPost_ret (results_none rfl _ _ _) rfl ?_
          exact ⟨⟨_, rfl⟩, .inr HJX.out⟩
end Go.Proofs.YtbjeiiofanpkdaaDoor
