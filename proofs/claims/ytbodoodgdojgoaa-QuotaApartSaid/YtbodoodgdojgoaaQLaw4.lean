/-
  QuotaApart: the walk.
-/
import Derived.Test.YtbodoodgdojgoaaQAct
namespace Go.Proofs.Ytbodoodgdojgoaa
open Go.RowKit Go.Maps Crv

/-- The one has of 3 what the other has; the other nothing of 4. -/
def Apt (T U : SHt) : Prop := getK 3 T = getK 3 U ∧ getK 4 U = none
theorem Apt.other {each most n cost now : Int} {T U : SHt} (h : Apt T U) (hT : Uniq T) (hn : ¬ n = 3) : Apt (takeQ each most T n cost now) U := by
  refine ⟨?_, h.2⟩
  rw [takeQ_get hT, if_neg (fun q => hn q.2.symm), h.1]
theorem Apt.ok {each most cost now : Int} {T U : SHt} (h : Apt T U) : okQ each most T 3 cost now = okQ each most U 3 cost now := by unfold okQ hasQ; rw [h.1]
theorem Apt.both {each most cost now : Int} {T U : SHt} (h : Apt T U) (hT : Uniq T) (hU : Uniq U) : Apt (takeQ each most T 3 cost now) (takeQ each most U 3 cost now) := by
  refine ⟨?_, ?_⟩
  · rw [takeQ_get hT, takeQ_get hU, h.ok, h.1]
    have e1 : hasQ each most T 3 now = hasQ each most U 3 now := by unfold hasQ; rw [h.1]
    have e2 : dateQ T 3 now = dateQ U 3 now := by unfold dateQ; rw [h.1]
    rw [e1, e2]
  · rw [takeQ_get hU, if_neg (fun q => by have := q.2; omega), h.2]
set_option maxHeartbeats 8000000 in
set_option maxRecDepth 100000 in
theorem quotaApart_walk (a0 b0 : Int) (v : Value) (acts : List AQ) (W : World) (hA : ActsQ W v acts) : Calls Try.prog 6 #[.int .i64 a0, .int .i64 b0, v] W fun e w' => e = .returned (.bool true) ∧ Below W.heap.size W w' := by
  obtain ⟨aa, ac, rfl, -⟩ := id hA
  rw [List.length_map] at hA ⊢
  have HA := Lib.hid hA
  obtain ⟨N, hN⟩ : ∃ N, N = acts.length := ⟨_, rfl⟩
  have HN := Lib.hid hN
  rw [← hN] at HA ⊢
  clear hA hN
  have HAW := Lib.hid (fun w => awake24_any w)
  have HRT := Lib.hid (fun w => rate_any a0 b0 w)
  go_enter Try.func6, Try.ntmps6
  go_wp2_with fail
  refine (HRT.out W).mono ?_
  rintro e w1 ⟨each, most, rfl, hr, he20, hm300, hb1⟩
  have HR := Lib.hid hr
  have HB1 := Lib.hid hb1
  clear hr he20 hm300 hb1
  go_wp2_with fail
  refine (qnew_any HR.out _).mono ?_
  rintro e w2 ⟨rfl, hq2, hb2⟩
  obtain ⟨rb, hrb⟩ : ∃ rb, rb = w1.heap.size := ⟨_, rfl⟩
  simp only [World.size_alloc] at hq2 ⊢
  rw [← hrb] at hq2 ⊢
  have H2 := Lib.hid (show Ql W rb (rb + 1 + 2) (rb + 1 + 1) each most [] w2 from ⟨(Mem.newAt w1 Trt [iv each, iv most] hrb).below hb2 (by rw [World.size_alloc]; omega), hq2, by have := HB1.out.size; omega, belowThen (belowThen HB1.out (belowSelf w1 _)) hb2⟩)
  obtain ⟨q, hq⟩ : ∃ q, q = rb + 1 + 2 := ⟨_, rfl⟩
  obtain ⟨b, hb⟩ : ∃ b, b = rb + 1 + 1 := ⟨_, rfl⟩
  rw [← hq, ← hb] at H2
  rw [← hq]
  have c0 := H2.out.r.cell 0
  have c1 := H2.out.r.cell 1
  simp only [List.getElem?_cons_zero, List.getElem?_cons_succ] at c0 c1
  clear hq2 hb2 hrb hq hb
  go_wp2_with fail
  refine (qnew_any HR.out _).mono ?_
  rintro e w2b ⟨rfl, hq2, hb2⟩
  have H2b := Lib.hid (show Q2 W rb q b (w2.heap.size + 2) (w2.heap.size + 1) each most [] [] w2b from ⟨H2.out.r.below hb2 H2.out.r.lt, H2.out.v.below hb2, hq2, by have := MpS.lt H2.out.v.t; omega, ⟨H2.out.hb, by have := H2.out.bel.size; omega⟩, belowThen H2.out.bel hb2⟩)
  obtain ⟨r, hr⟩ : ∃ r, r = w2.heap.size + 2 := ⟨_, rfl⟩
  obtain ⟨c, hc⟩ : ∃ c, c = w2.heap.size + 1 := ⟨_, rfl⟩
  rw [← hr, ← hc] at H2b
  rw [← hr]
  clear hq2 hb2 hr hc c0 c1 H2
  go_wp2_with fail
  refine (HAW.out w2b).mono ?_
  rintro e w3 ⟨rfl, hb3⟩
  have H3 := Lib.hid (H2b.out.on hb3)
  clear hb3 H2b
  go_wp2_with fail
  go_loopw [12] (fun s wr => ∃ (i : Nat) (T U : SHt), i ≤ N ∧ i ≤ 50 ∧ s = .int .i64 i ∧ Hid (Apt T U) ∧ Hid (T.length ≤ i ∧ U.length ≤ i) ∧ Hid (Q2 W rb q b r c each most T U wr)) (fun s _ => 50 - (intOf s).toNat)
  case atStart => exact ⟨0, [], [], by omega, by omega, rfl, Lib.hid ⟨rfl, rfl⟩, Lib.hid (by simp), H3⟩
  case round =>
    obtain ⟨i, T, U, hi, hi2, rfl, HAP, HLN, HQ⟩ := hrel
    clear H3
    by_cases hlt : i < N ∧ i < 50
    · have hd1 : decide ((i : Int) < (N : Int)) = true := by simp; omega
      have hd2 : decide ((i : Int) < 50) = true := by simp; omega
      have hd3 : (i : Int) < (N : Int) := by omega
      have hd4 : (i : Int) < 50 := by omega
      have hil : i < acts.length := by rw [← HN.out]; exact hlt.1
      obtain ⟨g, off, rfl, k0, k1, k2⟩ := HA.out.at HQ.out.bel hil
      obtain ⟨act, hact⟩ : ∃ act, act = acts[i] := ⟨_, rfl⟩
      rw [← hact] at k0 k1 k2
      obtain ⟨n0, cost, t0⟩ := act
      simp only at k0 k1 k2
      have mn := i64_mask n0 3 (by omega)
      simp only [Nat.reducePow, Nat.reduceSub, Int.cast_ofNat_Int] at mn
      obtain ⟨n, hn, hnin⟩ : ∃ c : Int, n0 % 8 = c ∧ 0 ≤ c ∧ c < 8 := ⟨_, rfl, by omega, by omega⟩
      rw [hn] at mn
      have HNI := Lib.hid (show In64 n from in64_of (by omega))
      have hti := tickV_in t0
      have HT0 := Lib.hid (tickV_any t0)
      obtain ⟨now, hnow⟩ : ∃ now, now = tickV t0 := ⟨_, rfl⟩
      rw [← hnow] at hti HT0
      have HNW := Lib.hid (show 0 ≤ now ∧ now ≤ 1099511627776 by omega)
      have HM := Lib.hid (Mem.new wr Tac [iv n0, iv cost, iv t0])
      have HQ1 := Lib.hid (HQ.out.on (belowSelf wr (.cells #[iv n0, iv cost, iv t0] Tac)))
      obtain ⟨ba, hba⟩ : ∃ ba, ba = wr.heap.size := ⟨_, rfl⟩
      have HBA := Lib.hid hba
      clear hact hil hn hnin hti hnow HQ hba
      go_wp2_with fail
      have hgr := HBA.out
      rw [← hgr] at HM ⊢
      clear hgr
      obtain ⟨wa, hwa⟩ : ∃ wa, wa = wr.alloc (.cells #[iv n0, iv cost, iv t0] Tac) := ⟨_, rfl⟩
      have HWA := Lib.hid hwa
      rw [← hwa] at HM HQ1
      change Code.wp _ _ _ _ (wr.alloc (.cells #[iv n0, iv cost, iv t0] Tac))
      rw [← hwa]
      clear hwa k0 k1 k2
      have HC0 := Lib.hid (fun p : Bw wa => show p.W.cell? ⟨ba, 0, none⟩ = some (iv n0) from (HM.out.below p.h HM.out.lt).cell 0)
      have HC2 := Lib.hid (fun p : Bw wa => show p.W.cell? ⟨ba, 2, none⟩ = some (iv t0) from (HM.out.below p.h HM.out.lt).cell 2)
      have HTK := Lib.hid (fun p : Bw wa => show Calls Try.prog 11 #[iv t0] p.W fun e w' => e = .returned (iv now) ∧ Below p.W.heap.size p.W w' from (HT0.out p.W).mono fun _ _ h => ⟨h.1, h.2 ▸ Below.refl _ _⟩)
      have hc0 := HC0.out
      have hc2 := HC2.out
      refine wp_region_bw (by kernel_rfl) (by kernel_rfl) ?_
      repeat (quiet_step ((go_at_call 11; rename_i p; exact Bw.call (HTK.out p))))
      refine wpQuiet_nil ?_
      rintro _ ⟨p, rfl⟩
      have HM2 := Lib.hid (HM.out.below p.h HM.out.lt)
      have HQ2 := Lib.hid (HQ1.out.on p.h)
      clear hc0 hc2 HC0 HC2 HTK HM HQ1 HWA
      obtain ⟨wb, hwb⟩ : ∃ wb, wb = p.W := ⟨_, rfl⟩
      rw [← hwb] at HM2 HQ2 ⊢
      clear hwb p
      rename_i K hK
      refine hK _ _ ?_
      clear hK K
      have k1 : wb.cell? ⟨ba, 1, none⟩ = some (iv cost) := HM2.out.cell 1
      have HTA := Lib.hid (HQ2.out.take (n := n) (cost := cost) (now := now) HNI.out HNW.out (by have := HLN.out; omega))
      have HUT := Lib.hid HQ2.out.v.uq
      have HUU := Lib.hid HQ2.out.u.uq
      have HLT := Lib.hid (length_take (each := each) (most := most) HUT.out n cost now)
      have HMT := Lib.hid HQ2.out.v.t
      go_wp2_with fail
      refine HTA.out.mono ?_
      rintro e w5 ⟨rfl, h5, hg5⟩
      have H5 := Lib.hid h5
      have HM5 := Lib.hid (past HM2.out HMT.out hg5)
      have j1 : w5.cell? ⟨ba, 1, none⟩ = some (iv cost) := HM5.out.cell 1
      clear h5 hg5 k1 HTA HMT HQ2 HM2
      by_cases hn3 : n = 3
      · subst hn3
        obtain ⟨ok, hok⟩ : ∃ ok, ok = okQ each most T 3 cost now := ⟨_, rfl⟩
        rw [← hok]
        have HTB := Lib.hid (H5.out.swap.take (n := 3) (cost := cost) (now := now) HNI.out HNW.out (by have := HLN.out; omega))
        rw [← HAP.out.ok, ← hok] at HTB
        have HLU := Lib.hid (length_take (each := each) (most := most) HUU.out 3 cost now)
        have HAP2 := Lib.hid (HAP.out.both (each := each) (most := most) (cost := cost) (now := now) HUT.out HUU.out)
        clear hok
        go_wp2_with fail
        refine HTB.out.mono ?_
        rintro e w6 ⟨rfl, h6, -⟩
        have H6 := Lib.hid h6.swap
        clear h6 HTB
        cases ok
        all_goals
          go_wp2_with fail
          go_roundw
          case rel => exact ⟨i + 1, _, _, by omega, by omega, by go_num, HAP2, Lib.hid (by have := HLN.out; have := HLT.out; have := HLU.out; omega), H6⟩
          case measure => simp [intOf]; omega
      · have hn4 : (n == 3) = false := by simpa using hn3
        have HAP2 := Lib.hid (HAP.out.other (each := each) (most := most) (cost := cost) (now := now) HUT.out hn3)
        obtain ⟨ok, hok⟩ : ∃ ok, ok = okQ each most T n cost now := ⟨_, rfl⟩
        rw [← hok]
        clear hok
        go_wp2_with fail
        go_roundw
        case rel => exact ⟨i + 1, _, _, by omega, by omega, by go_num, HAP2, Lib.hid (by have := HLN.out; have := HLT.out; omega), H5⟩
        case measure => simp [intOf]; omega
    · have hn : (decide ((i : Int) < (N : Int)) = false ∧ ¬ (i : Int) < (N : Int)) ∨ (decide ((i : Int) < (N : Int)) = true ∧ (i : Int) < (N : Int) ∧ decide ((i : Int) < 50) = false ∧ ¬ (i : Int) < 50) := by
        by_cases h : i < N
        · right; exact ⟨by simp; omega, by omega, by simp; omega, by omega⟩
        · left; exact ⟨by simp; omega, by omega⟩
      obtain ⟨Y, hY⟩ : ∃ Y, Y = hasQ each most T 3 1048576 := ⟨_, rfl⟩
      have hYU : hasQ each most U 3 1048576 = Y := by rw [hY]; unfold hasQ; rw [HAP.out.1]
      have HS1 := Lib.hid (fun p : Bw wr => show Calls Try.prog 14 #[.pointer (some ⟨q, 0, none⟩), iv 3, iv 1048576] p.W fun e w' => e = .returned (iv Y) ∧ Below p.W.heap.size p.W w' from by
        have := has_any (HQ.out.on p.h).v (n := 3) (now := 1048576) (in64_of (by omega)) (by omega)
        rwa [← hY] at this)
      have HS2 := Lib.hid (fun p : Bw wr => show Calls Try.prog 14 #[.pointer (some ⟨r, 0, none⟩), iv 3, iv 1048576] p.W fun e w' => e = .returned (iv Y) ∧ Below p.W.heap.size p.W w' from by
        have := has_any (HQ.out.on p.h).u (n := 3) (now := 1048576) (in64_of (by omega)) (by omega)
        rwa [hYU] at this)
      have HS3 := Lib.hid (fun p : Bw wr => show Calls Try.prog 14 #[.pointer (some ⟨r, 0, none⟩), iv 4, iv 0] p.W fun e w' => e = .returned (iv most) ∧ Below p.W.heap.size p.W w' from by
        have := has_any (HQ.out.on p.h).u (n := 4) (now := 0) (in64_of (by omega)) (by omega)
        rwa [show hasQ each most U 4 0 = most from by unfold hasQ; rw [HAP.out.2]] at this)
      have HC1 := Lib.hid (fun p : Bw wr => show p.W.cell? ⟨rb, 1, none⟩ = some (iv most) from (HQ.out.on p.h).rr.cell 1)
      have HBE := Lib.hid HQ.out.bel
      clear hY hYU
      rcases hn with ⟨e1, e2⟩ | ⟨e1, e2, e3, e4⟩
      all_goals
        go_wp2_with fail
        have hc1 := HC1.out
        refine wp_region_bw (by kernel_rfl) (by kernel_rfl) ?_
        iterate 2 (quiet_step ((go_at_call 14; rename_i p; exact Bw.call (HS1.out p))))
        iterate 4 (quiet_step ((go_at_call 14; rename_i p; exact Bw.call (HS2.out p))))
        iterate 7 (go_big_quiet_step ((go_at_call 14; rename_i p; exact Bw.call (HS3.out p))))
        refine wpQuiet_nil ?_
        rintro _ ⟨p, rfl⟩
        have HBP := Lib.hid (belowThen HBE.out p.h)
        clear hc1
        go_wp2_with fail
        go_ret
        exact ⟨rfl, HBP.out⟩
end Go.Proofs.Ytbodoodgdojgoaa
