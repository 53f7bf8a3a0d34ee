/-
  Repute: New, Good, Silent, Score, Until.
-/
import Derived.Test.YtblfekecmahagaaDoorRep1
namespace Go.Proofs.YtblfekecmahagaaDoor
open Go.RowKit Go.Maps Crv

theorem w64 {x y : Int} (h : x = y) (hb : -9223372036854775808 ≤ x ∧ x ≤ 9223372036854775807) : wrap64 x = y ∧ IntKind.i64.wrap x = y := ⟨(IntWalk.wrap64_in _ (by omega)).trans h, (IntWalk.i64_in _ (by omega)).trans h⟩
set_option maxRecDepth 100000 in
theorem bnew_any (w : World) : Calls Tryd.prog 9 #[] w fun e w' => e = .returned (.pointer (some ⟨w.heap.size + 2, 0, none⟩)) ∧ Bv w' (w.heap.size + 2) w.heap.size (w.heap.size + 1) [] [] ∧ Below w.heap.size w w' := by
  have hmm := @run_makeMap Tryd.prog
  go_enter Tryd.func9, Tryd.ntmps9
  go_wp2
  go_ret
  refine ⟨by simp, ⟨Mem.newAt _ Tbk [.map (some w.heap.size), .map (some (w.heap.size + 1))] (by simp), ?_, ?_, by omega, okM_nil, fun n p h => by simp [getK] at h, by simp⟩, ?_⟩
  · exact MpS.of (MpS.of (MpS.made w) (Below.heap_alloc _ _ _ (by simp))) (Below.heap_alloc _ _ _ (by simp; omega))
  · have := MpS.made (P := Tryd.prog) (k := Tin) (R := pfElem) (e := eP) (w.alloc (.map #[] 0))
    rw [World.size_alloc] at this
    exact MpS.of this (Below.heap_alloc _ _ _ (by simp))
  · exact belowThen (belowThen (belowSelf w _) (belowSelf _ _)) (belowSelf _ _)
section
variable {w : World} {k mb bb : Nat} {M : MKt} {B : BNt}
set_option maxRecDepth 100000 in
theorem score_any (h : Bv w k mb bb M B) {n : Int} (hn : In64 n) : Calls Tryd.prog 21 #[.pointer (some ⟨k, 0, none⟩), iv n] w fun e w' => e = .returned (iv (mkOf M n).1) ∧ w' = w := by
  have q0 : w.cell? ⟨k, 0, none⟩ = some (.map (some mb)) := h.m.cell 0
  have hlk := h.t.look hn
  obtain ⟨m, hm⟩ : ∃ m, m = mkOf M n := ⟨_, rfl⟩
  rw [← hm] at hlk ⊢
  obtain ⟨s, u, v⟩ := m
  have hfd : (Instr.field Tmk (mkV (s, u, v)) 0).run Tryd.prog w = .ok (iv s) w := by kernel_rfl
  clear hm h
  go_enter Tryd.func21, Tryd.ntmps21
  go_wp2_with fail
  go_ret
  exact ⟨rfl, rfl⟩
set_option maxRecDepth 100000 in
theorem until_any (h : Bv w k mb bb M B) {n : Int} (hn : In64 n) : Calls Tryd.prog 22 #[.pointer (some ⟨k, 0, none⟩), iv n] w fun e w' => e = .returned (iv (mkOf M n).2.2) ∧ w' = w := by
  have q0 : w.cell? ⟨k, 0, none⟩ = some (.map (some mb)) := h.m.cell 0
  have hlk := h.t.look hn
  obtain ⟨m, hm⟩ : ∃ m, m = mkOf M n := ⟨_, rfl⟩
  rw [← hm] at hlk ⊢
  obtain ⟨s, u, v⟩ := m
  have hfd : (Instr.field Tmk (mkV (s, u, v)) 2).run Tryd.prog w = .ok (iv v) w := by kernel_rfl
  clear hm h
  go_enter Tryd.func22, Tryd.ntmps22
  go_wp2_with fail
  go_ret
  exact ⟨rfl, rfl⟩
theorem wp_mapRun {P : Program} {ops : Array Oper} {rest : List Oper} {o : Oper} {a : Act} {w w' : World} {Q : Exit → Act → World → Prop} {t : TypeId} {mv xv vv : Value} (hr : (Instr.mapUpdate t mv xv vv).run P w = .ok () w')
    (m x v : Operand) (hgd : o.guard = none) (ho : o.op = .mapUpdate t m x v) (hm : a.eval m = mv) (hx : a.eval x = xv) (hv : a.eval v = vv) (h : wpList P ops Q rest (a.put o.dst undef) w') : wpList P ops Q (o :: rest) a w := by
  refine wpList_plain hgd fun K hK => ?_
  unfold Oper.wp execOp
  simp only [ho, hm, hx, hv, hr, Sem.run_bind, Sem.run_pure, Result.andThen_ok]
  exact hK _ _ h
set_option maxHeartbeats 1000000 in
set_option maxRecDepth 100000 in
theorem good_any (h : Bv w k mb bb M B) {n : Int} (hn : In64 n) (hl : M.length < 100000) : Calls Tryd.prog 10 #[.pointer (some ⟨k, 0, none⟩), iv n] w fun e w' => e = .returned (.tuple #[]) ∧ Bv w' k mb bb (goodM M n) B ∧ w.grownBy w' (some mb) := by
  have q0 : w.cell? ⟨k, 0, none⟩ = some (.map (some mb)) := h.m.cell 0
  have hD : Bv w.drew k mb bb M B := h.of rfl rfl rfl
  have hlk := hD.t.look hn
  have hk := h.ok.mk n
  obtain ⟨W2, hr2, ho2, hg2⟩ := hD.t.put (goodK (mkOf M n)) hn (by omega)
  have HV := Lib.hid (show Bv W2 k mb bb (goodM M n) B from hD.marks hg2 ho2 (h.ok.mk n).good hl)
  have HG := Lib.hid (show w.grownBy W2 (some mb) from grown_trans (grown_drew (grownRefl w (some mb))) hg2)
  obtain ⟨m, hm⟩ : ∃ m, m = mkOf M n := ⟨_, rfl⟩
  rw [← hm] at hlk hr2 hk
  obtain ⟨s, u, v⟩ := m
  have hfd : (Instr.field Tmk (mkV (s, u, v)) 0).run Tryd.prog w.drew = .ok (iv s) w.drew := by kernel_rfl
  have hs : -20 ≤ s ∧ s ≤ 20 := ⟨hk.1, hk.2.1⟩
  obtain ⟨t, ht⟩ : ∃ t, s + 1 = t := ⟨_, rfl⟩
  obtain ⟨wt, wt'⟩ := w64 ht (by omega)
  have HR := Lib.hid (show (Instr.mapUpdate Tmm (.map (some mb)) (iv n) (.agg #[iv (min t 20), iv 0, iv 0])).run Tryd.prog w.drew = .ok () W2 from by
    rw [← ht]; exact hr2)
  clear hm h hD ho2 hg2 hr2 hk ht hs
  by_cases hc : t ≤ 20
  · have HM := Lib.hid (show min t 20 = t by omega)
    have hc2 : ¬ 20 < t := by omega
    go_enter Tryd.func10, Tryd.ntmps10
    refine wp_region_still_tail 15 (by kernel_rfl) (by kernel_rfl) ?_
    simp only [List.take_succ_cons, List.take_zero, List.drop_succ_cons, List.drop_zero]
    iterate 15 still_step
    refine wpStill_nil ?_
    change wpList _ _ _ _ _ w.drew
    have hr2 := HR.out
    rw [HM.out] at hr2
    go_wp2_with (first
      | (refine wp_mapRun hr2 (.tmp 7) (.tmp 8) (.tmp 18) rfl rfl rfl rfl rfl ?_)
      | fail)
    go_end0
    exact ⟨rfl, HV.out, HG.out⟩
  · have HM := Lib.hid (show min t 20 = 20 by omega)
    have hc2 : 20 < t := by omega
    go_enter Tryd.func10, Tryd.ntmps10
    refine wp_region_still_tail 15 (by kernel_rfl) (by kernel_rfl) ?_
    simp only [List.take_succ_cons, List.take_zero, List.drop_succ_cons, List.drop_zero]
    iterate 15 still_step
    refine wpStill_nil ?_
    change wpList _ _ _ _ _ w.drew
    have hr2 := HR.out
    rw [HM.out] at hr2
    go_wp2_with (first
      | (refine wp_mapRun hr2 (.tmp 7) (.tmp 8) (.tmp 18) rfl rfl rfl rfl rfl ?_)
      | fail)
    go_end0
    exact ⟨rfl, HV.out, HG.out⟩
end
end Go.Proofs.YtblfekecmahagaaDoor
