/-
  Package bale: the decoder: Int, Str; the reference's Bytes, TakeNum, Int, TakeStr, TakeIDs behind an error.
-/
import Derived.Test.YtbkknhlagohhhaaBal6
import Derived.Test.YtbkknhlagohhhaaBal3n
namespace Go.Proofs.Ytbkknhlagohhhaa
open Go.RowKit Crv

/-- What Int does. -/
def intS (s : BSt) (top : Int) : BSt × Nat := if nat0 top < (numS s).2 then (failS (numS s).1 5, 0) else numS s
theorem intS_lt (s : BSt) (top : Int) (ht : top < 9223372036854775808) : (intS s top).2 < 9223372036854775808 := by
  unfold intS
  split
  · simp
  · unfold nat0 at *
    omega

set_option maxRecDepth 100000 in
set_option maxHeartbeats 400000 in
theorem intB_any (w : World) (g : Nat) (s : BSt) (top : Int) (h : BM w g s) (h1 : -9223372036854775808 ≤ top) (h2 : top < 9223372036854775808) :
    Calls Try.prog 85 #[ptr g, .int .i64 top] w fun e w' => e = .returned (.int .i64 ((intS s top).2 : Int)) ∧ BM w' g (intS s top).1 ∧ w.grownBy w' (some g) := by
  have HN := Lib.hid (numB_any w g s h)
  have hlt := numS_lt s
  have HI := Lib.hid (show intS s top = if nat0 top < (numS s).2 then (failS (numS s).1 5, 0) else numS s from rfl)
  clear h
  obtain ⟨s1, n, e1⟩ : ∃ s1 n, numS s = (s1, n) := ⟨_, _, rfl⟩
  rw [e1] at HN HI hlt
  clear e1
  have hlt' : n < 18446744073709551616 := hlt
  clear hlt
  by_cases h0 : 0 ≤ top
  · obtain ⟨m, rfl⟩ := Int.eq_ofNat_of_zero_le h0
    rw [show nat0 (m : Int) = m from by unfold nat0; omega] at HI
    clear h0
    by_cases hc : m < n
    · have HI2 := Lib.hid (show intS s (m : Int) = (failS s1 5, 0) by rw [HI.out]; simp [hc])
      have hd : decide (m < n) = true := by simpa using hc
      clear HI
      go_enter Try.func85, Try.ntmps85
      go_wp2_with fail
      refine HN.out.mono ?_
      rintro e w1 ⟨rfl, hm, hg⟩
      have HF := Lib.hid (fail_any w1 g s1 5 hm)
      clear hm
      go_wp2_with fail
      refine HF.out.mono ?_
      rintro e w2 ⟨rfl, hm2, hg2⟩
      have HM := Lib.hid hm2
      clear hm2
      go_wp2
      go_ret
      rw [HI2.out]
      exact ⟨rfl, HM.out, grown_trans hg hg2⟩
    · have HI2 := Lib.hid (show intS s (m : Int) = (s1, n) by rw [HI.out]; simp only [if_neg hc])
      have hd : decide (m < n) = false := by simpa using hc
      clear HI
      go_enter Try.func85, Try.ntmps85
      go_wp2_with fail
      refine HN.out.mono ?_
      rintro e w1 ⟨rfl, hm, hg⟩
      have HM := Lib.hid hm
      clear hm
      go_wp2
      go_ret
      rw [HI2.out]
      exact ⟨rfl, HM.out, hg⟩
  · have hneg : top < 0 := by omega
    rw [show nat0 top = 0 from by unfold nat0; omega] at HI
    by_cases hc : 0 < n
    · have HI2 := Lib.hid (show intS s top = (failS s1 5, 0) by rw [HI.out]; simp [hc])
      clear HI
      go_enter Try.func85, Try.ntmps85
      go_wp2_with fail
      refine HN.out.mono ?_
      rintro e w1 ⟨rfl, hm, hg⟩
      have HF := Lib.hid (fail_any w1 g s1 5 hm)
      clear hm
      go_wp2_with fail
      refine HF.out.mono ?_
      rintro e w2 ⟨rfl, hm2, hg2⟩
      have HM := Lib.hid hm2
      clear hm2
      go_wp2
      go_ret
      rw [HI2.out]
      exact ⟨rfl, HM.out, grown_trans hg hg2⟩
    · have hn0 : n = 0 := by omega
      subst hn0
      have HI2 := Lib.hid (show intS s top = (s1, 0) by rw [HI.out]; rfl)
      clear HI hc
      go_enter Try.func85, Try.ntmps85
      go_wp2_with fail
      refine HN.out.mono ?_
      rintro e w1 ⟨rfl, hm, hg⟩
      have HM := Lib.hid hm
      clear hm
      go_wp2
      go_ret
      rw [HI2.out]
      exact ⟨rfl, HM.out, hg⟩

/-- What Str does. -/
def strS (s : BSt) (top : Int) : BSt × List UInt8 := bytesS (intS s top).1 ((intS s top).2 : Int)
set_option maxRecDepth 100000 in
theorem strB_any (w : World) (g : Nat) (s : BSt) (top : Int) (h : BM w g s) (h1 : -9223372036854775808 ≤ top) (h2 : top < 9223372036854775808) :
    Calls Try.prog 88 #[ptr g, .int .i64 top] w fun e w' => e = .returned (.string (str (strS s top).2)) ∧ BM w' g (strS s top).1 ∧ w.grownBy w' (some g) := by
  have HI := Lib.hid (intB_any w g s top h h1 h2)
  clear h
  unfold strS
  obtain ⟨s1, n, e1⟩ : ∃ s1 n, intS s top = (s1, n) := ⟨_, _, rfl⟩
  rw [e1] at HI ⊢
  clear e1
  go_enter Try.func88, Try.ntmps88
  go_wp2_with fail
  refine HI.out.mono ?_
  rintro e w1 ⟨rfl, hm, hg⟩
  have HF := Lib.hid (bytesB_any w1 g s1 (n : Int) hm)
  clear hm
  go_wp2_with fail
  refine HF.out.mono ?_
  rintro e w2 ⟨rfl, hm2, hg2⟩
  have HM := Lib.hid hm2
  clear hm2
  go_wp2
  go_ret
  exact ⟨rfl, HM.out, grown_trans hg hg2⟩

/-- The reference's decoder behind ErrForm. -/
abbrev bad : Value := .agg #[.string (str []), .int .i64 2]

/-- A result that is a struct in memory, and one in a slot. -/
theorem resultsCellTmp {P : Program} {fn : Func} {p u : Tmp} {ty : TypeId} {w : World} {g : Nat} {t : TypeId} {cs : List Value} (hm : Mem w g t cs) (h : fn.results = #[.cell p ty, .tmp u]) (tmps : Array Value) (d : TypeDesc)
    (hp : tmps.getD p undef = .pointer (some ⟨g, 0, none⟩)) (hu : P.underlying ty = some d) (hd : (match d with | .struct _ | .array _ _ => true | _ => false) = true) (hi : (P.info? ty).map (·.size) = some cs.length) :
    (results fn tmps).run P w = .ok (.tuple #[.agg cs.toArray, tmps.getD u undef]) w := by
  rw [results_cell_tmp h tmps P w, hp]
  simp [asAddr, run_loadVar_row w g t ty cs.toArray (0, 0) d hm hu hd (by simpa using hi)]
abbrev badCells : List Value := [.string (str []), .int .i64 2]
theorem sz_ref : (Try.prog.info? 94).map (·.size) = some badCells.length := by kernel_rfl

set_option maxRecDepth 100000 in
theorem refBytes_bad (n : Int) (w : World) :
    Calls Try.prog 63 #[bad, .int .i64 n] w fun e w' => e = .returned (.tuple #[bad, .string (str [])]) ∧ Below w.heap.size w w' := by
  go_enter Try.func63, Try.ntmps63
  go_wp2
  exact bodyPost_ret (resultsCellTmp (Mem.newAt _ 94 badCells (by simp)) rfl _ _ rfl Try.underlying94 rfl sz_ref) rfl ⟨rfl, (belowSelf w _).alloc (by simp) _⟩

/-- Cells of a block that is there read behind a call as they did. -/
theorem bcell {W w1 : World} (hb : Below W.heap.size W w1) : (∀ b o, b < W.heap.size → w1.cell? ⟨b, o, none⟩ = W.cell? ⟨b, o, none⟩) ∧ (∀ b o, b < W.heap.size → w1.frozen? ⟨b, o, none⟩ = W.frozen? ⟨b, o, none⟩) :=
  ⟨fun b o h => hb.cell (p := ⟨b, o, none⟩) h, fun b o h => hb.frozen (p := ⟨b, o, none⟩) h⟩

theorem memTwo {w : World} {g : Nat} {t : TypeId} {a b : Value} (h : Mem w g t [a, b]) : w.cell? ⟨g, 0, none⟩ = some a ∧ w.cell? ⟨g, 1, none⟩ = some b ∧ w.frozen? ⟨g, 0, none⟩ = false ∧ w.frozen? ⟨g, 1, none⟩ = false := ⟨h.cell 0, h.cell 1, h.frozen 0, h.frozen 1⟩
abbrev Tr : TypeId := 94
abbrev zeroCells : List Value := [.string (str []), .int .i64 0]
/-- Two structs of the reference's in blocks g and g + 1, both written over. -/
theorem put_two {w1 : World} {g : Nat} {a b : Value} (h : Mem w1 (g + 1) Tr [a, b]) : Mem ((((w1.setCell ⟨g, 0, none⟩ (.string (str []))).setCell ⟨g, 1, none⟩ (.int .i64 2)).setCell ⟨g + 1, 0, none⟩ (.string (str []))).setCell ⟨g + 1, 1, none⟩ (.int .i64 2)) (g + 1) Tr badCells :=
  (((h.other (by simp) _).other (by simp) _).set 0 _).set 1 _
theorem below_put {w w1 : World} (h : Below w.heap.size w w1) (a b c d : Value) : Below w.heap.size w ((((w1.setCell ⟨w.heap.size, 0, none⟩ a).setCell ⟨w.heap.size, 1, none⟩ b).setCell ⟨w.heap.size + 1, 0, none⟩ c).setCell ⟨w.heap.size + 1, 1, none⟩ d) :=
  (((h.setCell (Nat.le_refl _) _).setCell (Nat.le_refl _) _).setCell (Nat.le_succ _) _).setCell (Nat.le_succ _) _

set_option maxRecDepth 100000 in
theorem refNum_bad (w : World) :
    Calls Try.prog 91 #[bad] w fun e w' => e = .returned (.tuple #[bad, .int .u64 0]) ∧ Below w.heap.size w w' := by
  go_enter Try.func91, Try.ntmps91
  go_wp2_with fail
  refine (refBytes_bad _ _).mono ?_
  rintro e w1 ⟨rfl, hb⟩
  have hm0 : Mem w1 w.heap.size Tr badCells := Mem.below ((Mem.newAt w Tr badCells rfl).alloc _) hb (by simp; omega)
  have hm1 : Mem w1 (w.heap.size + 1) Tr zeroCells := Mem.below (Mem.newAt (w.alloc _) Tr zeroCells (by simp)) hb (by simp)
  have hb0 : Below w.heap.size w w1 := ((belowSelf w _).alloc (by simp) _).trans (hb.mono (by simp; omega))
  obtain ⟨c00, c01, f00, f01⟩ := memTwo hm0
  obtain ⟨c10, c11, f10, f11⟩ := memTwo hm1
  have HM1 := Lib.hid hm1
  clear hb hm0 hm1
  go_wp2_with fail
  exact bodyPost_ret (resultsCellTmp (put_two HM1.out) rfl _ _ rfl Try.underlying94 rfl sz_ref) rfl ⟨rfl, below_put hb0 _ _ _ _⟩

set_option maxRecDepth 100000 in
theorem refInt_bad (n : Int) (w : World) :
    Calls Try.prog 62 #[bad, .int .i64 n] w fun e w' => e = .returned (.tuple #[bad, .int .i64 0]) ∧ Below w.heap.size w w' := by
  go_enter Try.func62, Try.ntmps62
  go_wp2_with fail
  refine (refNum_bad _).mono ?_
  rintro e w1 ⟨rfl, hb⟩
  have hm0 : Mem w1 w.heap.size Tr badCells := Mem.below ((Mem.newAt w Tr badCells rfl).alloc _) hb (by simp; omega)
  have hm1 : Mem w1 (w.heap.size + 1) Tr zeroCells := Mem.below (Mem.newAt (w.alloc _) Tr zeroCells (by simp)) hb (by simp)
  have hb0 : Below w.heap.size w w1 := ((belowSelf w _).alloc (by simp) _).trans (hb.mono (by simp; omega))
  obtain ⟨c00, c01, f00, f01⟩ := memTwo hm0
  obtain ⟨c10, c11, f10, f11⟩ := memTwo hm1
  have HM1 := Lib.hid hm1
  clear hb hm0 hm1
  go_wp2_with fail
  exact bodyPost_ret (resultsCellTmp (put_two HM1.out) rfl _ _ rfl Try.underlying94 rfl sz_ref) rfl ⟨rfl, below_put hb0 _ _ _ _⟩

set_option maxRecDepth 100000 in
set_option maxHeartbeats 400000 in
theorem refStr_bad (n : Int) (w : World) :
    Calls Try.prog 64 #[bad, .int .i64 n] w fun e w' => e = .returned (.tuple #[bad, .string (str [])]) ∧ Below w.heap.size w w' := by
  go_enter Try.func64, Try.ntmps64
  go_wp2_with fail
  refine (refInt_bad _ _).mono ?_
  rintro e w1 ⟨rfl, hb⟩
  have hm0 : Mem w1 w.heap.size Tr badCells := Mem.below ((Mem.newAt w Tr badCells rfl).alloc _) hb (by simp; omega)
  have hm1 : Mem w1 (w.heap.size + 1) Tr zeroCells := Mem.below (Mem.newAt (w.alloc _) Tr zeroCells (by simp)) hb (by simp)
  have hb0 : Below w.heap.size w w1 := ((belowSelf w _).alloc (by simp) _).trans (hb.mono (by simp; omega))
  obtain ⟨c00, c01, f00, f01⟩ := memTwo hm0
  obtain ⟨c10, c11, f10, f11⟩ := memTwo hm1
  have HM0 := Lib.hid hm0
  have HM1 := Lib.hid hm1
  clear hb hm0 hm1
  go_wp2_with fail
  refine (refBytes_bad _ _).mono ?_
  rintro e w2 ⟨rfl, hb2⟩
  have hs1 : w.heap.size + 1 < w1.heap.size := HM1.out.lt
  have hb0' := (hb0.setCell (p := ⟨w.heap.size, 0, none⟩) (Nat.le_refl _) (.string (str []))).setCell (p := ⟨w.heap.size, 1, none⟩) (Nat.le_refl _) (.int .i64 2)
  have hbT := belowThen hb0' hb2
  have hm1 : Mem w2 (w.heap.size + 1) Tr zeroCells := Mem.below ((HM1.out.other (by simp) _).other (by simp) _) hb2 (by simp; omega)
  obtain ⟨d10, d11, g10, g11⟩ := memTwo hm1
  have HM2 := Lib.hid hm1
  clear hb2 hm1 c00 c01 c10 c11 f00 f01 f10 f11
  go_wp2_with fail
  exact bodyPost_ret (resultsCellTmp ((HM2.out.set 0 (.string (str []))).set 1 (.int .i64 2)) rfl _ _ rfl Try.underlying94 rfl sz_ref) rfl ⟨rfl, (hbT.setCell (Nat.le_succ _) _).setCell (Nat.le_succ _) _⟩

end Go.Proofs.Ytbkknhlagohhhaa
