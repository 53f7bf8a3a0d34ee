/-
  Quota: New, Has, Take.
-/
import Derived.Test.YtbodoodgdojgoaaQuo1
namespace Go.Proofs.Ytbodoodgdojgoaa
open Go.RowKit Go.Maps Crv

set_option maxHeartbeats 1000000 in
set_option maxRecDepth 100000 in
theorem qnew_any {each most : Int} (hr : RtQ each most) (w : World) : Calls Try.prog 9 #[.agg #[iv each, iv most]] w fun e w' => e = .returned (.tuple #[.pointer (some ⟨w.heap.size + 2, 0, none⟩), iv 0]) ∧ Qv w' (w.heap.size + 2) (w.heap.size + 1) each most [] ∧ Below w.heap.size w w' := by
  have hmm := @run_makeMap Try.prog
  have h1 : decide (each < 1) = false := by have := hr.1; simp; omega
  have h2 : decide (most < each) = false := by have := hr.2.1; simp; omega
  have h3 : decide (most > 1048576) = false := by have := hr.2.2; simp; omega
  have h1' : ¬ each < 1 := by simpa using h1
  have h2' : ¬ most < each := by simpa using h2
  have h3' : ¬ most > 1048576 := by simpa using h3
  have HR := Lib.hid hr
  clear hr
  go_enter Try.func9, Try.ntmps9
  go_wp2_with fail
  refine bodyPost_ret (results_tmp2 rfl _ _ _) rfl ?_
  refine ⟨rfl, ⟨Mem.newAt _ Tqu [iv each, iv most, .map (some (w.heap.size + 1))] (by simp), ?_, HR.out, okQ_nil _, by simp⟩, ?_⟩
  · have := MpS.made (P := Try.prog) (k := Tin) (R := shElem) (e := eS) (w.alloc (.cells #[iv each, iv most] 24))
    rw [World.size_alloc] at this
    exact MpS.of this (Below.heap_alloc _ _ _ (by simp))
  · exact belowThen (belowThen (belowSelf w _) (belowSelf _ _)) (belowSelf _ _)
theorem growQ_at {each most l a now t : Int} (h : min (max now a - a) most = t) : growQ each most (l, a) now = min (l + t * each) most := by
  unfold growQ
  rw [h]
theorem prodQ {each most t : Int} (hr : RtQ each most) (h0 : 0 ≤ t) (h1 : t ≤ most) : 0 ≤ t * each ∧ t * each ≤ 1099511627776 := by
  obtain ⟨r1, r2, r3⟩ := hr
  refine ⟨Int.mul_nonneg h0 (by omega), ?_⟩
  have e1 : t * each ≤ 1048576 * each := mul_le_of (by omega) (by omega)
  have e2 : 1048576 * each ≤ 1048576 * 1048576 := Int.mul_le_mul_of_nonneg_left (by omega) (by omega)
  omega
set_option maxHeartbeats 2000000 in
set_option maxRecDepth 100000 in
theorem has_any {w : World} {q b : Nat} {each most : Int} {T : SHt} (h : Qv w q b each most T) {n now : Int} (hn : In64 n) (hw : 0 ≤ now ∧ now ≤ 1099511627776) : Calls Try.prog 14 #[.pointer (some ⟨q, 0, none⟩), iv n, iv now] w fun e w' => e = .returned (iv (hasQ each most T n now)) ∧ Below w.heap.size w w' := by
  have q0 := h.m.cell 0
  have q1 := h.m.cell 1
  have q2 := h.m.cell 2
  simp only [List.getElem?_cons_zero, List.getElem?_cons_succ] at q0 q1 q2
  have hlk := h.t.look_ok hn
  have hq := h.m.lt
  have HRT := Lib.hid h.rt
  have HB := Lib.hid (belowSelf w (.cells #[iv 0, iv 0] Tsh))
  cases hg : getK n T with
  | none =>
    have HV := Lib.hid (show hasQ each most T n now = most from by unfold hasQ; rw [hg])
    rw [hg] at hlk
    simp only [Option.getD_none, Option.isSome_none] at hlk
    clear hg h
    go_enter Try.func14, Try.ntmps14
    go_wp2_with fail
    go_ret
    exact ⟨by rw [HV.out]; rfl, HB.out⟩
  | some p =>
    have HV := Lib.hid (show hasQ each most T n now = growQ each most p now from by unfold hasQ; rw [hg])
    rw [hg] at hlk
    simp only [Option.getD_some, Option.isSome_some] at hlk
    have hp := h.ok n p hg
    obtain ⟨l, a⟩ := p
    simp only at hp
    have HB2 := Lib.hid (belowSelf w (.cells #[iv l, iv a] Tsh))
    clear hg h
    have hrt := HRT.out
    obtain ⟨r1, r2, r3⟩ := hrt
    rcases (show (a ≤ now ∧ now - a ≤ most) ∨ (a ≤ now ∧ most < now - a) ∨ now < a by omega) with ⟨k1, k2⟩ | ⟨k1, k2⟩ | k1
    · have HG := Lib.hid (growQ_at (each := each) (most := most) (l := l) (a := a) (now := now) (t := (now - a)) (by omega))
      have hpr := prodQ (t := (now - a)) HRT.out (by omega) (by omega)
      have hs1 : ¬ now < a := by omega
      have hs2 : wrap64 (now - a) = now - a := IntWalk.wrap64_in _ (by omega)
      have hs3 : ¬ most < now - a := by omega
      have hm1 : wrap64 ((now - a) * each) = (now - a) * each := IntWalk.wrap64_in _ (by omega)
      have hm2 : wrap64 (l + (now - a) * each) = l + (now - a) * each := IntWalk.wrap64_in _ (by omega)
      have HPR := Lib.hid hpr
      have HPP := Lib.hid hp
      obtain ⟨X, hX⟩ : ∃ X, X = (now - a) * each := ⟨_, rfl⟩
      rw [← hX] at HG hm1 hm2 HPR
      have hX2 : (now - a) * each = X := hX.symm
      clear hpr hp hX
      by_cases hf : l + X ≤ most
      · have HF := Lib.hid (show min (l + X) most = l + X from by omega)
        have hf2 : ¬ most < l + X := by omega
        go_enter Try.func14, Try.ntmps14
        go_wp2_with fail
        go_quiet (fail)
        go_wp2_with fail
        go_quiet (fail)
        go_wp2_with fail
        go_ret
        exact ⟨by rw [HV.out, HG.out, HF.out]; rfl, below_drewN (below_drewN HB2.out _) _⟩
      · have HF := Lib.hid (show min (l + X) most = most from by omega)
        have hf2 : most < l + X := by omega
        go_enter Try.func14, Try.ntmps14
        go_wp2_with fail
        go_quiet (fail)
        go_wp2_with fail
        go_quiet (fail)
        go_wp2_with fail
        go_ret
        exact ⟨by rw [HV.out, HG.out, HF.out]; rfl, below_drewN (below_drewN HB2.out _) _⟩
    · have HG := Lib.hid (growQ_at (each := each) (most := most) (l := l) (a := a) (now := now) (t := most) (by omega))
      have hpr := prodQ (t := most) HRT.out (by omega) (by omega)
      have hs1 : ¬ now < a := by omega
      have hs2 : wrap64 (now - a) = now - a := IntWalk.wrap64_in _ (by omega)
      have hs3 : ¬ now - a ≤ most := by omega
      have hm1 : wrap64 (most * each) = most * each := IntWalk.wrap64_in _ (by omega)
      have hm2 : wrap64 (l + most * each) = l + most * each := IntWalk.wrap64_in _ (by omega)
      have HPR := Lib.hid hpr
      have HPP := Lib.hid hp
      obtain ⟨X, hX⟩ : ∃ X, X = most * each := ⟨_, rfl⟩
      rw [← hX] at HG hm1 hm2 HPR
      have hX2 : most * each = X := hX.symm
      clear hpr hp hX
      by_cases hf : l + X ≤ most
      · have HF := Lib.hid (show min (l + X) most = l + X from by omega)
        have hf2 : ¬ most < l + X := by omega
        go_enter Try.func14, Try.ntmps14
        go_wp2_with fail
        go_quiet (fail)
        go_wp2_with fail
        go_quiet (fail)
        go_wp2_with fail
        go_ret
        exact ⟨by rw [HV.out, HG.out, HF.out]; rfl, below_drewN (below_drewN HB2.out _) _⟩
      · have HF := Lib.hid (show min (l + X) most = most from by omega)
        have hf2 : most < l + X := by omega
        go_enter Try.func14, Try.ntmps14
        go_wp2_with fail
        go_quiet (fail)
        go_wp2_with fail
        go_quiet (fail)
        go_wp2_with fail
        go_ret
        exact ⟨by rw [HV.out, HG.out, HF.out]; rfl, below_drewN (below_drewN HB2.out _) _⟩
    · have HG := Lib.hid (growQ_at (each := each) (most := most) (l := l) (a := a) (now := now) (t := (0 : Int)) (by omega))
      have hpr := prodQ (t := (0 : Int)) HRT.out (by omega) (by omega)
      have hs1 : ¬ a ≤ now := by omega
      have hs2 : wrap64 (a - a) = 0 := by rw [Int.sub_self]; exact IntWalk.wrap64_in _ (by omega)
      have hs3 : ¬ most < 0 := by omega
      have hm1 : wrap64 ((0 : Int) * each) = (0 : Int) * each := IntWalk.wrap64_in _ (by omega)
      have hm2 : wrap64 (l + (0 : Int) * each) = l + (0 : Int) * each := IntWalk.wrap64_in _ (by omega)
      have HPR := Lib.hid hpr
      have HPP := Lib.hid hp
      obtain ⟨X, hX⟩ : ∃ X, X = (0 : Int) * each := ⟨_, rfl⟩
      rw [← hX] at HG hm1 hm2 HPR
      have hX2 : (0 : Int) * each = X := hX.symm
      clear hpr hp hX
      by_cases hf : l + X ≤ most
      · have HF := Lib.hid (show min (l + X) most = l + X from by omega)
        have hf2 : ¬ most < l + X := by omega
        go_enter Try.func14, Try.ntmps14
        go_wp2_with fail
        go_quiet (fail)
        go_wp2_with fail
        go_quiet (fail)
        go_wp2_with fail
        go_ret
        exact ⟨by rw [HV.out, HG.out, HF.out]; rfl, below_drewN (below_drewN HB2.out _) _⟩
      · have HF := Lib.hid (show min (l + X) most = most from by omega)
        have hf2 : most < l + X := by omega
        go_enter Try.func14, Try.ntmps14
        go_wp2_with fail
        go_quiet (fail)
        go_wp2_with fail
        go_quiet (fail)
        go_wp2_with fail
        go_ret
        exact ⟨by rw [HV.out, HG.out, HF.out]; rfl, below_drewN (below_drewN HB2.out _) _⟩
theorem takeQ_no {each most : Int} {T : SHt} {n cost now : Int} (h : okQ each most T n cost now = false) : takeQ each most T n cost now = T := by
  unfold takeQ
  rw [h, if_neg (by simp)]
set_option maxHeartbeats 2000000 in
set_option maxRecDepth 100000 in
theorem take_any {w : World} {q b : Nat} {each most : Int} {T : SHt} (h : Qv w q b each most T) {n cost now : Int} (hn : In64 n) (hw : 0 ≤ now ∧ now ≤ 1099511627776) (hl : T.length < 100000) : Calls Try.prog 12 #[.pointer (some ⟨q, 0, none⟩), iv n, iv cost, iv now] w fun e w' => e = .returned (.bool (okQ each most T n cost now)) ∧ Qv w' q b each most (takeQ each most T n cost now) ∧ w.grownBy w' (some b) := by
  have HHAS := Lib.hid (has_any h hn hw)
  have HQ := Lib.hid h
  have HN := Lib.hid hn
  have hin := hasQ_in h.rt h.ok n now
  obtain ⟨x, hx⟩ : ∃ x, x = hasQ each most T n now := ⟨_, rfl⟩
  rw [← hx] at hin HHAS
  have HX := Lib.hid hx
  by_cases h1 : cost < 0
  · have HF := Lib.hid (show okQ each most T n cost now = false from by unfold okQ; simp [h1])
    have hd1 : decide (cost < 0) = true := by simpa using h1
    clear h hn hx
    go_enter Try.func12, Try.ntmps12
    go_wp2_with fail
    refine HHAS.out.mono ?_
    rintro e w1 ⟨rfl, hb1⟩
    have HB1 := Lib.hid hb1
    clear hb1
    go_wp2_with fail
    go_ret
    exact ⟨by rw [HF.out]; rfl, by rw [takeQ_no HF.out]; exact HQ.out.below HB1.out, grownOfBelow HB1.out⟩
  have hd1 : decide (cost < 0) = false := by simpa using h1
  by_cases h2 : x < cost
  · have HF := Lib.hid (show okQ each most T n cost now = false from by unfold okQ; rw [← HX.out]; simp [h2])
    have hd2 : decide (cost > x) = true := by simpa using h2
    clear h hn hx
    go_enter Try.func12, Try.ntmps12
    go_wp2_with fail
    refine HHAS.out.mono ?_
    rintro e w1 ⟨rfl, hb1⟩
    have HB1 := Lib.hid hb1
    clear hb1
    go_wp2_with fail
    go_ret
    exact ⟨by rw [HF.out]; rfl, by rw [takeQ_no HF.out]; exact HQ.out.below HB1.out, grownOfBelow HB1.out⟩
  have hd2 : decide (cost > x) = false := by simp; omega
  have h2' : ¬ cost > x := by omega
  have HF := Lib.hid (show okQ each most T n cost now = true from by unfold okQ; rw [← HX.out]; simp [h1, h2])
  have HL := Lib.hid hl
  have HW := Lib.hid hw
  have hs1 : wrap64 (x - cost) = x - cost := IntWalk.wrap64_in _ (by have := h.rt; unfold RtQ at this; omega)
  have hs1b : IntKind.i64.wrap (x - cost) = x - cost := IntWalk.i64_in _ (by have := h.rt; unfold RtQ at this; omega)
  obtain ⟨p, hp⟩ : ∃ p, p = (getK n T).getD (0, 0) := ⟨_, rfl⟩
  have HP := Lib.hid hp
  have HD := Lib.hid (show dateQ T n now = max p.2 now from by unfold dateQ; rw [hp])
  obtain ⟨pl, pa⟩ := p
  clear h hn hx hp
  go_enter Try.func12, Try.ntmps12
  go_wp2_with fail
  refine HHAS.out.mono ?_
  rintro e w1 ⟨rfl, hb1⟩
  have HB1 := Lib.hid hb1
  have HQ1 := Lib.hid (HQ.out.below hb1)
  have q2 := HQ1.out.m.cell 2
  simp only [List.getElem?_cons_zero, List.getElem?_cons_succ] at q2
  have hlk0 := (show MpH w1.drew b T from HQ1.out.t).look HN.out
  rw [← HP.out] at hlk0
  have hlk : (Instr.lookup Tms (.map (some b)) (iv n) false).run Try.prog w1.drew = .ok (.agg #[iv pl, iv pa]) w1.drew := hlk0
  have hfd : (Instr.field Tsh (.agg #[iv pl, iv pa]) 1).run Try.prog w1.drew = .ok (iv pa) w1.drew := by kernel_rfl
  clear hlk0
  have hq := HQ1.out.m.lt
  obtain ⟨W2, hr2, ho2, hg2⟩ := (show MpH w1.drew b T from HQ1.out.t).put (x - cost, max pa now) HN.out (by have := HL.out; omega)
  have HR2 := Lib.hid hr2
  have HO2 := Lib.hid ho2
  have HG2 := Lib.hid hg2
  have HQ2 := Lib.hid (show Qv W2 q b each most (takeQ each most T n cost now) from by
    have hT : takeQ each most T n cost now = eS.set n (x - cost, max pa now) T := by
      unfold takeQ
      rw [HF.out, if_pos rfl, HD.out, ← HX.out]
    have hne : q ≠ b := by
      rintro rfl
      obtain ⟨es, cl, hb⟩ := MpS.block HQ1.out.t
      have := HQ1.out.m
      unfold Mem at this
      rw [hb] at this
      cases this
    refine ⟨(hg2.block q hq (fun e => hne (by injection e))).trans HQ1.out.m, by rw [hT]; exact ho2, HQ1.out.rt, HQ1.out.ok.take HQ1.out.rt HQ1.out.uq n cost HW.out, ?_⟩
    have := length_take (each := each) (most := most) HQ1.out.uq n cost now
    have := HL.out
    omega)
  clear hb1 hr2 ho2 hg2
  go_wp2_with fail
  by_cases hm : pa < now
  · have hm2 : ¬ now ≤ pa := by omega
    have HM := Lib.hid (show max pa now = now from by omega)
    refine wp_region_still_tail 18 (by kernel_rfl) (by kernel_rfl) ?_
    simp only [List.take_succ_cons, List.take_zero, List.drop_succ_cons, List.drop_zero]
    iterate 18 still_step
    refine wpStill_nil ?_
    change wpList _ _ _ _ _ w1.drew
    have hr2 := HR2.out
    rw [HM.out] at hr2
    go_wp2_with (first
      | (refine wp_mapRun hr2 (.tmp 24) (.tmp 25) (.tmp 38) rfl rfl rfl rfl rfl ?_)
      | fail)
    go_ret
    exact ⟨by rw [HF.out]; rfl, HQ2.out, grown_trans (grown_drew (grownOfBelow HB1.out)) HG2.out⟩
  · have hm2 : now ≤ pa := by omega
    have HM := Lib.hid (show max pa now = pa from by omega)
    refine wp_region_still_tail 18 (by kernel_rfl) (by kernel_rfl) ?_
    simp only [List.take_succ_cons, List.take_zero, List.drop_succ_cons, List.drop_zero]
    iterate 18 still_step
    refine wpStill_nil ?_
    change wpList _ _ _ _ _ w1.drew
    have hr2 := HR2.out
    rw [HM.out] at hr2
    go_wp2_with (first
      | (refine wp_mapRun hr2 (.tmp 24) (.tmp 25) (.tmp 38) rfl rfl rfl rfl rfl ?_)
      | fail)
    go_ret
    exact ⟨by rw [HF.out]; rfl, HQ2.out, grown_trans (grown_drew (grownOfBelow HB1.out)) HG2.out⟩
end Go.Proofs.Ytbodoodgdojgoaa
