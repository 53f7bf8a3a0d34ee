/-
  QuotaPlays: the walk.
-/
import Derived.Test.YtbodoodgdojgoaaQRef2
namespace Go.Proofs.Ytbodoodgdojgoaa
open Go.RowKit Go.Maps Crv

/-- A list stands where a map's block alone turns. -/
theorem RdS.past {w w' : World} {v : Value} {l T : SHt} {b : Nat} (h : RdS w v l) (hM : MpH w b T) (hg : w.grownBy w' (some b)) : RdS w' v l := by
  obtain ⟨a, cap, hv, hcap, hc⟩ := h
  refine ⟨a, cap, hv, hcap, fun i hi => ?_⟩
  obtain ⟨g, off, ha, hlt, hr⟩ := hc i hi
  have hne : g ≠ b := by
    rintro rfl
    obtain ⟨es, cl, hb⟩ := MpS.block hM
    have h0 := hr 0 (iv (l[i]'(by simpa using hi)).1) (by simp [shC])
    simp [World.cell?, hb] at h0
  exact ⟨g, off, ha, Nat.lt_of_lt_of_le hlt hg.size, fun j u hu => hg.cell (hr j u hu) (fun e => hne (by injection e))⟩
theorem okL_of {most : Int} {l T : SHt} (h : SameQ l T) (hT : OkQ most T) : OkQ most l := fun n p hp => hT n p (by rw [← h.2 n]; exact hp)
theorem length_takeL (each most : Int) (l : SHt) (n cost now : Int) : (takeL each most l n cost now).length ≤ l.length + 1 := by
  unfold takeL
  split
  · rw [List.length_append]
    have : (delK n l).length ≤ l.length := List.length_filter_le _ _
    simp
    omega
  · omega
set_option maxHeartbeats 8000000 in
set_option maxRecDepth 100000 in
theorem quotaPlays_walk (a0 b0 : Int) (v : Value) (acts : List AQ) (W : World) (hA : ActsQ W v acts) : Calls Try.prog 3 #[.int .i64 a0, .int .i64 b0, v] W fun e w' => e = .returned (.bool true) ∧ Below W.heap.size W w' := by
  obtain ⟨aa, ac, rfl, -⟩ := id hA
  rw [List.length_map] at hA ⊢
  have HA := Lib.hid hA
  obtain ⟨N, hN⟩ : ∃ N, N = acts.length := ⟨_, rfl⟩
  have HN := Lib.hid hN
  rw [← hN] at HA ⊢
  clear hA hN
  have HAW := Lib.hid (fun w => awake24_any w)
  have HRT := Lib.hid (fun w => rate_any a0 b0 w)
  go_enter Try.func3, Try.ntmps3
  go_wp2_with fail
  refine (HRT.out W).mono ?_
  rintro e w1 ⟨each, most, rfl, hr, he20, hm300, hb1⟩
  have HR := Lib.hid hr
  have HB1 := Lib.hid hb1
  clear hr he20 hm300 hb1
  go_wp2_with fail
  refine (qnew_any HR.out _).mono ?_
  rintro e w2 ⟨rfl, hq2, hb2⟩
  obtain ⟨rb, hrb⟩ : ∃ rb, rb = w1.heap.size := ⟨_, rfl⟩
  simp only [World.size_alloc] at hq2 ⊢
  rw [← hrb] at hq2 ⊢
  have H2 := Lib.hid (show Ql W rb (rb + 1 + 2) (rb + 1 + 1) each most [] w2 from ⟨(Mem.newAt w1 Trt [iv each, iv most] hrb).below hb2 (by rw [World.size_alloc]; omega), hq2, by have := HB1.out.size; omega, belowThen (belowThen HB1.out (belowSelf w1 _)) hb2⟩)
  obtain ⟨q, hq⟩ : ∃ q, q = rb + 1 + 2 := ⟨_, rfl⟩
  obtain ⟨b, hb⟩ : ∃ b, b = rb + 1 + 1 := ⟨_, rfl⟩
  rw [← hq, ← hb] at H2
  rw [← hq]
  clear hq2 hb2 hrb hq hb
  go_wp2_with fail
  refine (HAW.out w2).mono ?_
  rintro e w3 ⟨rfl, hb3⟩
  have H3 := Lib.hid (H2.out.on hb3)
  clear hb3 H2
  go_wp2_with fail
  have HE0 := Lib.hid (show RdS (w3.alloc (.cells #[] Tsr)) (.slice (some ⟨w3.heap.size, 0, none⟩) 0 0) [] from (show RwS (w3.alloc (.cells #[] Tsr)) w3.heap.size (.slice (some ⟨w3.heap.size, 0, none⟩) 0 0) [] from Rw.new Tsr 3 (Nat.le_refl _)).rd)
  have H3b := Lib.hid (H3.out.on (belowSelf w3 (.cells #[] Tsr)))
  clear H3
  go_loopw [10, 11] (fun v s wr => ∃ (i : Nat) (l T : SHt), i ≤ N ∧ i ≤ 50 ∧ s = .int .i64 i ∧ Hid (SameQ l T ∧ getK 99 T = none) ∧ Hid (l.length ≤ i ∧ T.length ≤ i) ∧ Hid (RdS wr v l) ∧ Hid (Ql W rb q b each most T wr)) (fun _ s _ => 50 - (intOf s).toNat)
  case atStart => exact ⟨0, [], [], by omega, by omega, rfl, Lib.hid ⟨⟨by simp [Uniq], fun _ => rfl⟩, rfl⟩, Lib.hid (by simp), HE0, H3b⟩
  case round =>
    obtain ⟨i, l, T, hi, hi2, rfl, HSM, HLN, HRD, HQ⟩ := hrel
    clear H3b HE0
    by_cases hlt : i < N ∧ i < 50
    · have hd1 : decide ((i : Int) < (N : Int)) = true := by simp; omega
      have hd2 : decide ((i : Int) < 50) = true := by simp; omega
      have hd3 : (i : Int) < (N : Int) := by omega
      have hd4 : (i : Int) < 50 := by omega
      have hil : i < acts.length := by rw [← HN.out]; exact hlt.1
      obtain ⟨g, off, rfl, k0, k1, k2⟩ := HA.out.at HQ.out.bel hil
      obtain ⟨act, hact⟩ : ∃ act, act = acts[i] := ⟨_, rfl⟩
      rw [← hact] at k0 k1 k2
      obtain ⟨n0, cost, t0⟩ := act
      simp only at k0 k1 k2
      have mn := i64_mask n0 3 (by omega)
      simp only [Nat.reducePow, Nat.reduceSub, Int.cast_ofNat_Int] at mn
      obtain ⟨n, hn, hnin⟩ : ∃ c : Int, n0 % 8 = c ∧ 0 ≤ c ∧ c < 8 := ⟨_, rfl, by omega, by omega⟩
      rw [hn] at mn
      have HNI := Lib.hid (show In64 n from in64_of (by omega))
      have hti := tickV_in t0
      have HT0 := Lib.hid (tickV_any t0)
      obtain ⟨now, hnow⟩ : ∃ now, now = tickV t0 := ⟨_, rfl⟩
      rw [← hnow] at hti HT0
      have HNW := Lib.hid (show 0 ≤ now ∧ now ≤ 1099511627776 by omega)
      obtain ⟨n3, hn3⟩ : ∃ s, now + 3 = s := ⟨_, rfl⟩
      obtain ⟨wn3, wn3'⟩ := w64 hn3 (by omega)
      have HN3 := Lib.hid (show 0 ≤ n3 ∧ n3 ≤ 1099511627776 by omega)
      have HN99 := Lib.hid (show ¬ (99 : Int) = n by omega)
      have HRD1 := Lib.hid (HRD.out.below (belowSelf wr (.cells #[iv n0, iv cost, iv t0] Tac)))
      obtain ⟨vl, hvl⟩ : ∃ vl, vl = u10 := ⟨_, rfl⟩
      rw [← hvl] at HRD1 ⊢
      have HM := Lib.hid (Mem.new wr Tac [iv n0, iv cost, iv t0])
      have HQ1 := Lib.hid (HQ.out.on (belowSelf wr (.cells #[iv n0, iv cost, iv t0] Tac)))
      obtain ⟨ba, hba⟩ : ∃ ba, ba = wr.heap.size := ⟨_, rfl⟩
      have HBA := Lib.hid hba
      clear hact hil hn hnin hti hnow HQ hba hn3 HRD hvl
      go_wp2_with fail
      have hgr := HBA.out
      rw [← hgr] at HM ⊢
      clear hgr
      obtain ⟨wa, hwa⟩ : ∃ wa, wa = wr.alloc (.cells #[iv n0, iv cost, iv t0] Tac) := ⟨_, rfl⟩
      have HWA := Lib.hid hwa
      rw [← hwa] at HM HQ1 HRD1
      change Code.wp _ _ _ _ (wr.alloc (.cells #[iv n0, iv cost, iv t0] Tac))
      rw [← hwa]
      clear hwa k0 k1 k2
      have HC0 := Lib.hid (fun p : Bw wa => show p.W.cell? ⟨ba, 0, none⟩ = some (iv n0) from (HM.out.below p.h HM.out.lt).cell 0)
      have HC2 := Lib.hid (fun p : Bw wa => show p.W.cell? ⟨ba, 2, none⟩ = some (iv t0) from (HM.out.below p.h HM.out.lt).cell 2)
      have HTK := Lib.hid (fun p : Bw wa => show Calls Try.prog 11 #[iv t0] p.W fun e w' => e = .returned (iv now) ∧ Below p.W.heap.size p.W w' from (HT0.out p.W).mono fun _ _ h => ⟨h.1, h.2 ▸ Below.refl _ _⟩)
      have hc0 := HC0.out
      have hc2 := HC2.out
      refine wp_region_bw (by kernel_rfl) (by kernel_rfl) ?_
      repeat (quiet_step ((go_at_call 11; rename_i p; exact Bw.call (HTK.out p))))
      refine wpQuiet_nil ?_
      rintro _ ⟨p, rfl⟩
      have HM2 := Lib.hid (HM.out.below p.h HM.out.lt)
      have HQ2 := Lib.hid (HQ1.out.on p.h)
      have HRD2 := Lib.hid (HRD1.out.below p.h)
      clear hc0 hc2 HC0 HC2 HTK HM HQ1 HWA HRD1
      obtain ⟨wb, hwb⟩ : ∃ wb, wb = p.W := ⟨_, rfl⟩
      rw [← hwb] at HM2 HQ2 HRD2 ⊢
      clear hwb p
      rename_i K hK
      refine hK _ _ ?_
      clear hK K
      have k1 : wb.cell? ⟨ba, 1, none⟩ = some (iv cost) := HM2.out.cell 1
      have HTA := Lib.hid (HQ2.out.take (n := n) (cost := cost) (now := now) HNI.out HNW.out (by have := HLN.out; omega))
      have HUT := Lib.hid HQ2.out.v.uq
      have HLT := Lib.hid (length_take (each := each) (most := most) HUT.out n cost now)
      have HMT := Lib.hid HQ2.out.v.t
      go_wp2_with fail
      refine HTA.out.mono ?_
      rintro e w5 ⟨rfl, h5, hg5⟩
      have H5 := Lib.hid h5
      have HM5 := Lib.hid (past HM2.out HMT.out hg5)
      have HRD5 := Lib.hid (HRD2.out.past HMT.out hg5)
      have j1 : w5.cell? ⟨ba, 1, none⟩ = some (iv cost) := HM5.out.cell 1
      have r0 : w5.cell? ⟨rb, 0, none⟩ = some (iv each) := H5.out.r.cell 0
      have r1 : w5.cell? ⟨rb, 1, none⟩ = some (iv most) := H5.out.r.cell 1
      have HOKT := Lib.hid HQ2.out.v.ok
      clear h5 hg5 k1 HTA HMT HQ2 HM2 HRD2 HM5
      have HRT2 := Lib.hid (rtake_any HR.out HRD5.out (okL_of HSM.out.1 HOKT.out) HSM.out.1.1 (by have := HLN.out; omega) n cost HNW.out)
      rw [HSM.out.1.ok] at HRT2
      obtain ⟨ok, hok⟩ : ∃ ok, ok = okQ each most T n cost now := ⟨_, rfl⟩
      rw [← hok] at HRT2 ⊢
      have HS5 := Lib.hid (HSM.out.1.take (each := each) (most := most) HUT.out n cost now)
      have H99 := Lib.hid (show getK 99 (takeQ each most T n cost now) = none from by rw [takeQ_get HUT.out, if_neg (fun q => HN99.out q.2), HSM.out.2])
      have HLL := Lib.hid (length_takeL each most l n cost now)
      obtain ⟨T5, hT5⟩ : ∃ T5, T5 = takeQ each most T n cost now := ⟨_, rfl⟩
      obtain ⟨l5, hl5⟩ : ∃ l5, l5 = takeL each most l n cost now := ⟨_, rfl⟩
      rw [← hT5] at H5 HS5 H99 HLT
      rw [← hl5] at HRT2 HS5 HLL
      clear hok hT5 hl5 HN99
      go_wp2_with fail
      refine HRT2.out.mono ?_
      rintro e w6 ⟨v6, rfl, hr6, hb6⟩
      have H6 := Lib.hid (H5.out.on hb6)
      have HRD6 := Lib.hid hr6
      clear hr6 hb6 HRT2 j1 r0 r1 H5 HRD5
      obtain ⟨Y, hY⟩ : ∃ Y, Y = hasQ each most T5 n n3 := ⟨_, rfl⟩
      have HH1 := Lib.hid (fun p : Bw w6 => show Calls Try.prog 14 #[.pointer (some ⟨q, 0, none⟩), iv n, iv n3] p.W fun e w' => e = .returned (iv Y) ∧ Below p.W.heap.size p.W w' from by
        have := (H6.out.on p.h).has (n := n) (now := n3) HNI.out HN3.out
        rwa [← hY] at this)
      have HH2 := Lib.hid (fun p : Bw w6 => show Calls Try.prog 15 #[v6, iv each, iv most, iv n, iv n3] p.W fun e w' => e = .returned (iv Y) ∧ Below p.W.heap.size p.W w' from by
        have := rhas_any HR.out (HRD6.out.below p.h) (okL_of HS5.out H6.out.v.ok) HS5.out.1 (by have := HLN.out; have := HLL.out; omega) n HN3.out
        rwa [HS5.out.has, ← hY] at this)
      have HC0 := Lib.hid (fun p : Bw w6 => show p.W.cell? ⟨rb, 0, none⟩ = some (iv each) from (H6.out.on p.h).r.cell 0)
      have HC1 := Lib.hid (fun p : Bw w6 => show p.W.cell? ⟨rb, 1, none⟩ = some (iv most) from (H6.out.on p.h).r.cell 1)
      clear hY
      cases ok
      all_goals
        go_wp2_with fail
        have hc0 := HC0.out
        have hc1 := HC1.out
        refine wp_region_bw (by kernel_rfl) (by kernel_rfl) ?_
        iterate 4 (quiet_step (fail))
        iterate 9 (go_big_quiet_step ((go_at_call 14; rename_i p; exact Bw.call (HH1.out p))))
        iterate 7 (go_big_quiet_step ((go_at_call 15; rename_i p; exact Bw.call (HH2.out p))))
        refine wpQuiet_nil ?_
        rintro _ ⟨p, rfl⟩
        have HQE := Lib.hid (H6.out.on p.h)
        have HRE := Lib.hid (HRD6.out.below p.h)
        clear hc0 hc1 HC0 HC1 HH1 HH2 H6 HRD6
        go_wp2_with fail
        go_roundw
        case rel => exact ⟨i + 1, l5, T5, by omega, by omega, by go_num, Lib.hid ⟨HS5.out, H99.out⟩, Lib.hid (by have := HLN.out; have := HLT.out; have := HLL.out; omega), HRE, HQE⟩
        case measure => simp [intOf]; omega
    · have hn : (decide ((i : Int) < (N : Int)) = false ∧ ¬ (i : Int) < (N : Int)) ∨ (decide ((i : Int) < (N : Int)) = true ∧ (i : Int) < (N : Int) ∧ decide ((i : Int) < 50) = false ∧ ¬ (i : Int) < 50) := by
        by_cases h : i < N
        · right; exact ⟨by simp; omega, by omega, by simp; omega, by omega⟩
        · left; exact ⟨by simp; omega, by omega⟩
      have HSE := Lib.hid (fun p : Bw wr => show Calls Try.prog 14 #[.pointer (some ⟨q, 0, none⟩), iv 99, iv 0] p.W fun e w' => e = .returned (iv most) ∧ Below p.W.heap.size p.W w' from by
        have := (HQ.out.on p.h).has (n := 99) (now := 0) (in64_of (by omega)) (by omega)
        rwa [show hasQ each most T 99 0 = most from by unfold hasQ; rw [HSM.out.2]] at this)
      have HC1 := Lib.hid (fun p : Bw wr => show p.W.cell? ⟨rb, 1, none⟩ = some (iv most) from (HQ.out.on p.h).r.cell 1)
      have HBE := Lib.hid HQ.out.bel
      clear HRD
      rcases hn with ⟨e1, e2⟩ | ⟨e1, e2, e3, e4⟩
      all_goals
        go_wp2_with fail
        have hc1 := HC1.out
        refine wp_region_bw (by kernel_rfl) (by kernel_rfl) ?_
        repeat (quiet_step ((go_at_call 14; rename_i p; exact Bw.call (HSE.out p))))
        refine wpQuiet_nil ?_
        rintro _ ⟨p, rfl⟩
        have HBP := Lib.hid (belowThen HBE.out p.h)
        clear hc1
        go_wp2_with fail
        go_ret
        exact ⟨rfl, HBP.out⟩
end Go.Proofs.Ytbodoodgdojgoaa
