/-
  The laws' take behind an error.
-/
import Derived.Test.YtclggeicpdkkdaaBal8
namespace Go.Proofs.Ytclggeicpdkkdaa
open Go.RowKit Crv

abbrev Tt : TypeId := 58
/-- The memory of take: the reference's decoder, what is to be taken, the result, the decoder. -/
def TakeW (w : World) (N g : Nat) (k n : Int) : Prop := Mem w N Tr badCells ∧ Mem w (N + 1) Tt [.int .i64 k, .int .i64 n] ∧ Mem w (N + 1 + 1) Tr zeroCells ∧ BM w g badS
theorem TakeW.below {w w' : World} {N g : Nat} {k n : Int} (h : TakeW w N g k n) (hb : Below w.heap.size w w') : TakeW w' N g k n :=
  ⟨h.1.below hb h.1.lt, h.2.1.below hb h.2.1.lt, h.2.2.1.below hb h.2.2.1.lt, h.2.2.2.below hb⟩
theorem TakeW.grown {w w' : World} {N g : Nat} {k n : Int} (h : TakeW w N g k n) (hg : w.grownBy w' (some g)) (hgN : g < N) (hm : BM w' g badS) : TakeW w' N g k n :=
  ⟨h.1.grown hg (fun e => by injection e with e; omega), h.2.1.grown hg (fun e => by injection e with e; omega), h.2.2.1.grown hg (fun e => by injection e with e; omega), hm⟩
theorem TakeW.cells {w : World} {N g : Nat} {k n : Int} (h : TakeW w N g k n) :
    w.cell? ⟨N, 0, none⟩ = some (.string (str [])) ∧ w.cell? ⟨N, 1, none⟩ = some (.int .i64 2) ∧ w.cell? ⟨N + 1, 0, none⟩ = some (.int .i64 k) ∧ w.cell? ⟨N + 1, 1, none⟩ = some (.int .i64 n) ∧
      w.cell? ⟨N + 1 + 1, 0, none⟩ = some (.string (str [])) ∧ w.cell? ⟨N + 1 + 1, 1, none⟩ = some (.int .i64 0) ∧ w.frozen? ⟨N + 1 + 1, 0, none⟩ = false ∧ w.frozen? ⟨N + 1 + 1, 1, none⟩ = false ∧ N + 1 + 1 < w.heap.size :=
  ⟨h.1.cell 0, h.1.cell 1, h.2.1.cell 0, h.2.1.cell 1, h.2.2.1.cell 0, h.2.2.1.cell 1, h.2.2.1.frozen 0, h.2.2.1.frozen 1, h.2.2.1.lt⟩
theorem takeW_new {w : World} {g : Nat} {k n : Int} (h : BM w g badS) : TakeW (((w.alloc (.cells badCells.toArray Tr)).alloc (.cells #[.int .i64 k, .int .i64 n] Tt)).alloc (.cells zeroCells.toArray Tr)) w.heap.size g k n :=
  ⟨((Mem.newAt w Tr badCells rfl).alloc _).alloc _, (Mem.newAt (w.alloc _) Tt [.int .i64 k, .int .i64 n] (by simp)).alloc _, Mem.newAt _ Tr zeroCells (by simp), Mem.alloc (Mem.alloc (Mem.alloc h _) _) _⟩
theorem takeW_from (w : World) (k n : Int) (row : Option Nat) : w.grownBy (((w.alloc (.cells badCells.toArray Tr)).alloc (.cells #[.int .i64 k, .int .i64 n] Tt)).alloc (.cells zeroCells.toArray Tr)) row :=
  grownOfBelow (((belowSelf w _).alloc (by simp) _).alloc (by simp; omega) _)
/-- What take says behind an error. -/
def TakeBad (w : World) (g : Nat) (e : Ending) (w' : World) : Prop := e = .returned (.tuple #[bad, .bool true]) ∧ BM w' g badS ∧ w.grownBy w' (some g)

/-- The end of take. -/
def takeEnd (w2 : World) (N : Nat) : World := (w2.setCell ⟨N + 1 + 1, 0, none⟩ (.string (str []))).setCell ⟨N + 1 + 1, 1, none⟩ (.int .i64 2)
theorem take_end {w w2 : World} {g : Nat} {k n : Int} (h : TakeW w2 w.heap.size g k n) (hf : w.grownBy w2 (some g)) (hgN : g < w.heap.size) :
    Mem (takeEnd w2 w.heap.size) (w.heap.size + 1 + 1) Tr badCells ∧ BM (takeEnd w2 w.heap.size) g badS ∧ w.grownBy (takeEnd w2 w.heap.size) (some g) := by
  refine ⟨(h.2.2.1.set 0 _).set 1 _, Mem.other (Mem.other h.2.2.2 (by simp; omega) _) (by simp; omega) _, ⟨hf.os, hf.tape, hf.output, by simpa [takeEnd, World.setCell] using hf.size, fun b hb hne => ?_⟩⟩
  exact (Below.heap_setCell _ _ _ b (by simp; omega)).trans ((Below.heap_setCell _ _ _ b (by simp; omega)).trans (hf.block b hb hne))
theorem take_end_alloc {w W : World} {g : Nat} (h : Mem W (w.heap.size + 1 + 1) Tr badCells ∧ BM W g badS ∧ w.grownBy W (some g)) (o : Obj) : Mem (W.alloc o) (w.heap.size + 1 + 1) Tr badCells ∧ BM (W.alloc o) g badS ∧ w.grownBy (W.alloc o) (some g) :=
  ⟨h.1.alloc o, Mem.alloc h.2.1 o, grown_below h.2.2 (belowSelf W o)⟩

set_option maxRecDepth 100000 in
set_option maxHeartbeats 1000000 in
theorem take_1 (n : Int) (w : World) (g : Nat) (h : BM w g badS) :
    Calls Try.prog 28 #[ptr g, bad, .agg #[.int .i64 1, .int .i64 n]] w (TakeBad w g) := by
  have hgN : g < w.heap.size := Mem.lt h
  have HW := Lib.hid (takeW_new (k := 1) (n := n) h)
  have HF := Lib.hid (takeW_from w 1 n (some g))
  clear h
  go_enter Try.func28, Try.ntmps28
  go_wp2_with fail
  refine (bytesB_any _ g badS n HW.out.2.2.2).mono ?_
  rw [bytesS_bad]
  rintro e w1 ⟨rfl, hm1, hg1⟩
  have HW1 := Lib.hid (HW.out.grown hg1 hgN hm1)
  have HF1 := Lib.hid (grown_trans HF.out hg1)
  clear HW HF hm1 hg1
  obtain ⟨c0, c1, c2, c3, c4, c5, f4, f5, hs1⟩ := HW1.out.cells
  go_wp2_with fail
  refine (refBytes_bad n _).mono ?_
  rintro e w2 ⟨rfl, hb2⟩
  have HW2 := Lib.hid (HW1.out.below hb2)
  have HF2 := Lib.hid (grown_below HF1.out hb2)
  clear HW1 HF1 hb2 c0 c1 c2 c3 c4 c5 f4 f5 hs1
  obtain ⟨c0, c1, c2, c3, c4, c5, f4, f5, hs1⟩ := HW2.out.cells
  go_wp2_with fail
  obtain ⟨q1, q2, q3⟩ := take_end_alloc (take_end HW2.out HF2.out hgN) (.cells badCells.toArray Tr)
  exact bodyPost_ret (resultsCellTmp q1 rfl _ _ rfl Try.underlying54 rfl sz_ref) rfl ⟨rfl, q2, q3⟩

set_option maxRecDepth 100000 in
set_option maxHeartbeats 1000000 in
theorem take_2 (n : Int) (w : World) (g : Nat) (h : BM w g badS) :
    Calls Try.prog 28 #[ptr g, bad, .agg #[.int .i64 2, .int .i64 n]] w (TakeBad w g) := by
  have hgN : g < w.heap.size := Mem.lt h
  have HW := Lib.hid (takeW_new (k := 2) (n := n) h)
  have HF := Lib.hid (takeW_from w 2 n (some g))
  clear h
  go_enter Try.func28, Try.ntmps28
  go_wp2_with fail
  refine (numB_any _ g badS HW.out.2.2.2).mono ?_
  rw [numS_bad]
  rintro e w1 ⟨rfl, hm1, hg1⟩
  have HW1 := Lib.hid (HW.out.grown hg1 hgN hm1)
  have HF1 := Lib.hid (grown_trans HF.out hg1)
  clear HW HF hm1 hg1
  obtain ⟨c0, c1, c2, c3, c4, c5, f4, f5, hs1⟩ := HW1.out.cells
  go_wp2_with fail
  refine (refNum_bad _).mono ?_
  rintro e w2 ⟨rfl, hb2⟩
  have HW2 := Lib.hid (HW1.out.below hb2)
  have HF2 := Lib.hid (grown_below HF1.out hb2)
  clear HW1 HF1 hb2 c0 c1 c2 c3 c4 c5 f4 f5 hs1
  obtain ⟨c0, c1, c2, c3, c4, c5, f4, f5, hs1⟩ := HW2.out.cells
  go_wp2_with fail
  obtain ⟨q1, q2, q3⟩ := take_end_alloc (take_end HW2.out HF2.out hgN) (.cells badCells.toArray Tr)
  exact bodyPost_ret (resultsCellTmp q1 rfl _ _ rfl Try.underlying54 rfl sz_ref) rfl ⟨rfl, q2, q3⟩

set_option maxRecDepth 100000 in
set_option maxHeartbeats 1000000 in
theorem take_3 (n : Int) (w : World) (g : Nat) (h : BM w g badS) (h1 : -9223372036854775808 ≤ n) (h2 : n < 9223372036854775808) :
    Calls Try.prog 28 #[ptr g, bad, .agg #[.int .i64 3, .int .i64 n]] w (TakeBad w g) := by
  have hgN : g < w.heap.size := Mem.lt h
  have HW := Lib.hid (takeW_new (k := 3) (n := n) h)
  have HF := Lib.hid (takeW_from w 3 n (some g))
  clear h
  go_enter Try.func28, Try.ntmps28
  go_wp2_with fail
  refine (intB_any _ g badS n HW.out.2.2.2 h1 h2).mono ?_
  rw [intS_bad]
  rintro e w1 ⟨rfl, hm1, hg1⟩
  have HW1 := Lib.hid (HW.out.grown hg1 hgN hm1)
  have HF1 := Lib.hid (grown_trans HF.out hg1)
  clear HW HF hm1 hg1
  obtain ⟨c0, c1, c2, c3, c4, c5, f4, f5, hs1⟩ := HW1.out.cells
  go_wp2_with fail
  refine (refInt_bad n _).mono ?_
  rintro e w2 ⟨rfl, hb2⟩
  have HW2 := Lib.hid (HW1.out.below hb2)
  have HF2 := Lib.hid (grown_below HF1.out hb2)
  clear HW1 HF1 hb2 c0 c1 c2 c3 c4 c5 f4 f5 hs1
  obtain ⟨c0, c1, c2, c3, c4, c5, f4, f5, hs1⟩ := HW2.out.cells
  go_wp2_with fail
  obtain ⟨q1, q2, q3⟩ := take_end_alloc (take_end HW2.out HF2.out hgN) (.cells badCells.toArray Tr)
  exact bodyPost_ret (resultsCellTmp q1 rfl _ _ rfl Try.underlying54 rfl sz_ref) rfl ⟨rfl, q2, q3⟩

set_option maxRecDepth 100000 in
set_option maxHeartbeats 1000000 in
theorem take_4 (n : Int) (w : World) (g : Nat) (h : BM w g badS) (h1 : -9223372036854775808 ≤ n) (h2 : n < 9223372036854775808) :
    Calls Try.prog 28 #[ptr g, bad, .agg #[.int .i64 4, .int .i64 n]] w (TakeBad w g) := by
  have hgN : g < w.heap.size := Mem.lt h
  have HW := Lib.hid (takeW_new (k := 4) (n := n) h)
  have HF := Lib.hid (takeW_from w 4 n (some g))
  clear h
  go_enter Try.func28, Try.ntmps28
  go_wp2_with fail
  refine (strB_any _ g badS n HW.out.2.2.2 h1 h2).mono ?_
  rw [strS_bad]
  rintro e w1 ⟨rfl, hm1, hg1⟩
  have HW1 := Lib.hid (HW.out.grown hg1 hgN hm1)
  have HF1 := Lib.hid (grown_trans HF.out hg1)
  clear HW HF hm1 hg1
  obtain ⟨c0, c1, c2, c3, c4, c5, f4, f5, hs1⟩ := HW1.out.cells
  go_wp2_with fail
  refine (refStr_bad n _).mono ?_
  rintro e w2 ⟨rfl, hb2⟩
  have HW2 := Lib.hid (HW1.out.below hb2)
  have HF2 := Lib.hid (grown_below HF1.out hb2)
  clear HW1 HF1 hb2 c0 c1 c2 c3 c4 c5 f4 f5 hs1
  obtain ⟨c0, c1, c2, c3, c4, c5, f4, f5, hs1⟩ := HW2.out.cells
  go_wp2_with fail
  obtain ⟨q1, q2, q3⟩ := take_end_alloc (take_end HW2.out HF2.out hgN) (.cells badCells.toArray Tr)
  exact bodyPost_ret (resultsCellTmp q1 rfl _ _ rfl Try.underlying54 rfl sz_ref) rfl ⟨rfl, q2, q3⟩

set_option maxRecDepth 100000 in
set_option maxHeartbeats 1000000 in
theorem take_0 (k n : Int) (w : World) (g : Nat) (h : BM w g badS) (k1 : ((k : Int) == 1) = false) (k2 : ((k : Int) == 2) = false) (k3 : ((k : Int) == 3) = false) (k4 : ((k : Int) == 4) = false) (k5 : ((k : Int) == 5) = false) (k6 : ((k : Int) == 6) = false) :
    Calls Try.prog 28 #[ptr g, bad, .agg #[.int .i64 k, .int .i64 n]] w (TakeBad w g) := by
  have HW := Lib.hid h
  clear h
  go_enter Try.func28, Try.ntmps28
  go_wp2_with fail
  refine bodyPost_ret (resultsCellTmp (Mem.newAt _ Tr badCells (by simp)) rfl _ _ rfl Try.underlying54 rfl sz_ref) rfl ⟨rfl, ?_, ?_⟩
  · exact Mem.alloc (Mem.alloc (Mem.alloc HW.out _) _) _
  · exact grownOfBelow (((belowSelf w _).alloc (by simp) _).alloc (by simp; omega) _)
end Go.Proofs.Ytclggeicpdkkdaa
