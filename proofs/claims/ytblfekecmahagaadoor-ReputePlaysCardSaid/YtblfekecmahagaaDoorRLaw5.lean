/-
  ReputePlays: the walk.
-/
import Derived.Test.YtblfekecmahagaaDoorRPl6
namespace Go.Proofs.YtblfekecmahagaaDoor
open Go.RowKit Go.Maps Crv

attribute [local go_sem ↓] ld_pf
set_option maxHeartbeats 16000000 in
set_option maxRecDepth 100000 in
theorem reputePlays_walk (v : Value) (acts : List AR) (v2 : Value) (ks : List Int) (W : World) (hc : Consts W) (hA : ActsR W v acts) (hZ : ZsP W v2 ks) : Calls Tryd.prog 3 #[v, v2] W fun e w' => e = .returned (.bool true) ∧ Below W.heap.size W w' := by
  obtain ⟨aa, ac, rfl, -⟩ := id hA
  rw [List.length_map] at hA ⊢
  obtain ⟨za, zc, rfl, hk0⟩ := hZ
  have HA := Lib.hid hA
  have HC := Lib.hid hc
  have HZS := Lib.hid (show ZsP W (.slice za ks.length zc) ks from ⟨za, zc, rfl, hk0⟩)
  obtain ⟨N, hN⟩ : ∃ N, N = acts.length := ⟨_, rfl⟩
  have HN := Lib.hid hN
  rw [← hN] at HA ⊢
  obtain ⟨N2, hN2⟩ : ∃ N, N = ks.length := ⟨_, rfl⟩
  have HN2 := Lib.hid hN2
  rw [← hN2] at HZS ⊢
  clear hA hN hk0 hN2
  have HAW := Lib.hid (awake23_any W hc)
  clear hc
  go_enter Tryd.func3, Tryd.ntmps3
  go_wp2_with fail
  refine HAW.out.mono ?_
  rintro e w1 ⟨rfl, hb1⟩
  have HMK := Lib.hid (Lb.make hb1)
  clear hb1 HAW
  go_wp2_with fail
  refine HMK.out.mono ?_
  rintro e w2 ⟨rfl, h2⟩
  obtain ⟨k, hk⟩ : ∃ k, k = w1.heap.size + 2 := ⟨_, rfl⟩
  obtain ⟨mb, hmb⟩ : ∃ k, k = w1.heap.size := ⟨_, rfl⟩
  obtain ⟨bb, hbb⟩ : ∃ k, k = w1.heap.size + 1 := ⟨_, rfl⟩
  have H2 := Lib.hid (show Lb W k mb bb [] [] w2 from by rw [hk, hmb, hbb]; exact h2)
  rw [← hk]
  clear h2 hk hmb hbb HMK
  have HP0 := Lib.hid (show Pst W k mb bb [] [] (.slice (some ⟨w2.heap.size, 0, none⟩) 0 0) [] (w2.alloc (.cells #[] Tmi)) from ⟨H2.out.on (belowSelf w2 _), (show RwM (w2.alloc (.cells #[] Tmi)) w2.heap.size (.slice (some ⟨w2.heap.size, 0, none⟩) 0 0) [] from Rw.new Tmi 8 (Nat.le_refl _)).rd, SameL.nil⟩)
  clear H2
  go_wp2_with fail
  go_loopw [6, 7, 8] (fun vl t s wr => ∃ (i : Nat) (nw : Int), i ≤ N ∧ i ≤ 60 ∧ t = iv nw ∧ s = .int .i64 i ∧ Hid (∃ M B l, PI M B l nw i ∧ Pst W k mb bb M B vl l wr)) (fun _ _ s _ => 60 - (intOf s).toNat)
  case atStart => exact ⟨0, 0, by omega, by omega, rfl, rfl, Lib.hid ⟨[], [], [], PI.nil, HP0.out⟩⟩
  case round =>
    obtain ⟨i, nw, hi, hi2, rfl, rfl, HX⟩ := hrel
    obtain ⟨M, B, l, hV, hJ⟩ := HX.out
    have HV := Lib.hid hV
    have HJ := Lib.hid hJ
    clear hV hJ HX HP0
    by_cases hlt : i < N ∧ i < 60
    · have hd1 : decide ((i : Int) < (N : Int)) = true := by simp; omega
      have hd2 : decide ((i : Int) < 60) = true := by simp; omega
      have hd3 : (i : Int) < (N : Int) := by omega
      have hd4 : (i : Int) < 60 := by omega
      have hil : i < acts.length := by rw [← HN.out]; exact hlt.1
      obtain ⟨g, off, rfl, k0, k1, k2, k3, k4⟩ := HA.out.cells HJ.out.b.bel hil
      obtain ⟨act, hact⟩ : ∃ act, act = acts[i] := ⟨_, rfl⟩
      rw [← hact] at k0 k1 k2 k3 k4
      obtain ⟨kd, n0, by_, text, real⟩ := act
      simp only at k0 k1 k2 k3 k4
      have mn := i64_mask n0 3 (by omega)
      have md := i64_mask by_ 4 (by omega)
      simp only [Nat.reducePow, Nat.reduceSub, Int.cast_ofNat_Int] at mn md
      obtain ⟨n, hn, hnin⟩ : ∃ c : Int, n0 % 8 = c ∧ 0 ≤ c ∧ c < 8 := ⟨_, rfl, by omega, by omega⟩
      obtain ⟨d, hd, hdin⟩ : ∃ c : Int, by_ % 16 = c ∧ 0 ≤ c ∧ c ≤ 15 := ⟨_, rfl, by omega, by omega⟩
      rw [hn] at mn
      rw [hd] at md
      obtain ⟨now, hnow⟩ : ∃ t, nw + d = t := ⟨_, rfl⟩
      obtain ⟨wn, wn'⟩ := w64 hnow (by have := HV.out.n; omega)
      have HVG := Lib.hid (fun M' B' l' (q : PI M' B' l' (nw + d) (i + 1)) => show PI M' B' l' now (i + 1) from hnow ▸ q)
      have HD := Lib.hid hdin
      have HLN := Lib.hid (show M.length ≤ 100 ∧ B.length ≤ 100 ∧ l.length ≤ 100 from ⟨by have := HV.out.m; omega, by have := HV.out.b; omega, by have := HV.out.l; omega⟩)
      have HNI := Lib.hid (show In64 n from in64_of (by omega))
      have HNW := Lib.hid (show 0 ≤ now ∧ now ≤ 1000 from by have := HV.out.n; omega)
      have HM := Lib.hid (Mem.new wr Tar [iv kd, iv n0, iv by_, tx text, tx real])
      have HP1 := Lib.hid (HJ.out.on (belowSelf wr (.cells #[iv kd, iv n0, iv by_, tx text, tx real] Tar)))
      have HOKX := Lib.hid (HJ.out.s.ok HJ.out.b.v.ok n)
      obtain ⟨ba, hba⟩ : ∃ ba, ba = wr.heap.size := ⟨_, rfl⟩
      have HBA := Lib.hid hba
      clear hact hil hn hd hdin hnow HJ hba
      go_upto_region 10 with fail
      have hgr := HBA.out
      rw [← hgr] at HM ⊢
      clear hgr
      obtain ⟨wa, hwa⟩ : ∃ wa, wa = wr.alloc (.cells #[iv kd, iv n0, iv by_, tx text, tx real] Tar) := ⟨_, rfl⟩
      rw [← hwa] at HM HP1
      change Code.wp _ _ _ _ (wr.alloc (.cells #[iv kd, iv n0, iv by_, tx text, tx real] Tar))
      rw [← hwa]
      clear hwa k0 k1 k2 k3 k4 HBA
      have e0 : wa.cell? ⟨ba, 0, none⟩ = some (iv kd) := HM.out.cell 0
      have e1 : wa.cell? ⟨ba, 1, none⟩ = some (iv n0) := HM.out.cell 1
      have e2 : wa.cell? ⟨ba, 2, none⟩ = some (iv by_) := HM.out.cell 2
      have e3 : wa.cell? ⟨ba, 3, none⟩ = some (tx text) := HM.out.cell 3
      have e4 : wa.cell? ⟨ba, 4, none⟩ = some (tx real) := HM.out.cell 4
      by_cases hk1 : kd = 1
      · as_aux_lemma =>
          subst hk1
          have HUM := Lib.hid HP1.out.b.v.uq
          go_wp2_with fail
          refine (HP1.out.b.good HNI.out (by have := HLN.out; omega)).mono ?_
          rintro e w5 ⟨rfl, hl5, hg5⟩
          have HL5 := Lib.hid hl5
          have HR5 := Lib.hid (HP1.out.r.past (MpS.block HP1.out.b.v.t) hg5)
          clear hl5 hg5 e0 e1 e2 e3 e4
          go_wp2_with fail
          refine (rgood_any HR5.out (by have := HLN.out; omega) n ⟨HOKX.out.1, HOKX.out.2.1⟩).mono ?_
          rintro e wE ⟨vE, rfl, hr, hbE⟩
          have HPE := Lib.hid (show Pst W k mb bb _ B vE _ wE from ⟨HL5.out.on hbE, hr, HP1.out.s.good HUM.out n⟩)
          have HVE := Lib.hid (HVG.out _ _ _ (HV.out.good HD.out HUM.out n (goodX (atL l n))))
          clear hr hbE HL5 HR5
          have HX := Lib.hid (show ∃ Me Be le, PI Me Be le now (i + 1) ∧ Pst W k mb bb Me Be vE le wE from ⟨_, _, _, HVE.out, HPE.out⟩)
          obtain ⟨Me, Be, le, hVE, hPE⟩ := HX.out
          have HVX := Lib.hid hVE
          have HPX := Lib.hid hPE
          clear hVE hPE HX HVE HPE
          obtain ⟨s, wt, un, b, m, ⟨q1, q2, q3⟩, R, hAT, hBN, hSC, hUN, hMY, hRM, hR32, htx⟩ := tail_facts HPX.out (by have := HVX.out.l; omega) HNI.out now
          simp only at hAT htx
          obtain ⟨rV, hrV⟩ : ∃ rV, rV = (.agg (pfC R).toArray : Value) := ⟨_, rfl⟩
          simp only [← hrV] at hBN
          have HRV := Lib.hid hrV
          have HAT := Lib.hid hAT
          have HBN := Lib.hid hBN
          have HSC := Lib.hid hSC
          have HUN := Lib.hid hUN
          have HMY := Lib.hid hMY
          have HRM := Lib.hid hRM
          have HR32 := Lib.hid hR32
          have HTX := Lib.hid htx
          have HI := Lib.hid (sz_pf R hR32)
          have HON := Lib.hid (one_pfC R)
          have HLL := Lib.hid (show (pfC zeroP).length = (pfC R).length from (len_pfC (p := zeroP) rfl).trans (len_pfC hR32).symm)
          clear hrV hAT hBN hSC hUN hMY hRM hR32 htx
          cases b with
          | false =>
            as_aux_lemma =>
              go_wp2_with fail
              refine (HAT.out _ (Below.refl _ _)).mono ?_
              rintro e w7 ⟨rfl, hb7⟩
              have HB8 := Lib.hid (belowThen hb7 (belowSelf w7 (.cells #[iv n, iv s, iv wt, iv un, .bool false, iv q1, tx q2, tx q3] Tmi)))
              have HM8 := Lib.hid (Mem.new w7 Tmi [iv n, iv s, iv wt, iv un, .bool false, iv q1, tx q2, tx q3])
              clear hb7
              go_wp2_with fail
              refine (HBN.out _ HB8.out).mono ?_
              rintro e w9 ⟨rfl, hb9⟩
              have HB9 := Lib.hid (belowThen HB8.out hb9)
              have HM9 := Lib.hid (HM8.out.below hb9 HM8.out.lt)
              have HZ := Lib.hid (show Mem (w9.alloc (.cells (pfC zeroP).toArray Tpf)) w9.heap.size Tpf (pfC zeroP) from Mem.new w9 Tpf _)
              have HBZ := Lib.hid (belowSelf w9 (.cells (pfC zeroP).toArray Tpf))
              clear hb9 HB8 HM8
              go_upto_region 28 with (first
                | (refine wp_store_gen HBZ.out (Nat.le_refl _) HZ.out (pfC R) Tpf (.tmp 17) (.tmp 115) rfl rfl rfl HRV.out HI.out HLL.out HON.out ?_
                   intro W4 hm4 hb4 hz4 ho4
                   have HB10 := Lib.hid (belowThen HB9.out hb4)
                   have HM10 := Lib.hid (HM9.out.below hb4 HM9.out.lt)
                   have HP10 := Lib.hid hm4
                   clear hm4 hb4 hz4 ho4)
                | fail)
              clear HZ HBZ HB9 HM9
              have HPY := Lib.hid (HPX.out.on HB10.out)
              have HSP := Lib.hid (fun p : Bw _ => HSC.out p.W (belowThen HB10.out p.h))
              have HUP := Lib.hid (fun p : Bw _ => HUN.out p.W (belowThen HB10.out p.h))
              have HMP := Lib.hid (fun p : Bw _ => HMY.out p.W (belowThen HB10.out p.h))
              have HRP := Lib.hid (fun p : Bw _ => HRM.out p.W (belowThen HB10.out p.h))
              have HC1 := Lib.hid (fun p : Bw _ => show p.W.cell? ⟨w7.heap.size, 1, none⟩ = some (iv s) from (HM10.out.below p.h HM10.out.lt).cell 1)
              have HC3 := Lib.hid (fun p : Bw _ => show p.W.cell? ⟨w7.heap.size, 3, none⟩ = some (iv un) from (HM10.out.below p.h HM10.out.lt).cell 3)
              have HC4 := Lib.hid (fun p : Bw _ => show p.W.cell? ⟨w7.heap.size, 4, none⟩ = some (.bool false) from (HM10.out.below p.h HM10.out.lt).cell 4)
              have HC7 := Lib.hid (fun p : Bw _ => show p.W.cell? ⟨w7.heap.size, 7, none⟩ = some (tx q3) from (HM10.out.below p.h HM10.out.lt).cell 7)
              have hc1 := HC1.out
              have hc3 := HC3.out
              have hc4 := HC4.out
              have hc7 := HC7.out
              refine wp_region_bw (by kernel_rfl) (by kernel_rfl) ?_
              iterate 7 (quiet_step ((first
                    | (go_at_call 21; rename_i p; exact Bw.call (HSP.out p))
                    | (go_at_call 22; rename_i p; exact Bw.call (HUP.out p))
                    | (go_at_call 23; rename_i p; exact Bw.call (HMP.out p))
                    | (go_at_call 24; rename_i p; exact Bw.call (HRP.out p)))))
              iterate 35 (go_big_quiet_step ((first
                    | (go_at_call 21; rename_i p; exact Bw.call (HSP.out p))
                    | (go_at_call 22; rename_i p; exact Bw.call (HUP.out p))
                    | (go_at_call 23; rename_i p; exact Bw.call (HMP.out p))
                    | (go_at_call 24; rename_i p; exact Bw.call (HRP.out p)))))
              refine wpQuiet_nil ?_
              rintro _ ⟨p, rfl⟩
              have HPZ := Lib.hid (HPY.out.on p.h)
              clear hc1 hc3 hc4 hc7 HC1 HC3 HC4 HC7 HSP HUP HMP HRP
              go_wp2_with fail
              go_roundw
              case rel => exact ⟨i + 1, now, by omega, by omega, rfl, by go_num, Lib.hid ⟨Me, Be, le, HVX.out, HPZ.out⟩⟩
              case measure => simp [intOf]; omega
          | true =>
            have HT3 := Lib.hid (show R.2.2 = q3 from HTX.out rfl)
            as_aux_lemma =>
              go_wp2_with fail
              refine (HAT.out _ (Below.refl _ _)).mono ?_
              rintro e w7 ⟨rfl, hb7⟩
              have HB8 := Lib.hid (belowThen hb7 (belowSelf w7 (.cells #[iv n, iv s, iv wt, iv un, .bool true, iv q1, tx q2, tx q3] Tmi)))
              have HM8 := Lib.hid (Mem.new w7 Tmi [iv n, iv s, iv wt, iv un, .bool true, iv q1, tx q2, tx q3])
              clear hb7
              go_wp2_with fail
              refine (HBN.out _ HB8.out).mono ?_
              rintro e w9 ⟨rfl, hb9⟩
              have HB9 := Lib.hid (belowThen HB8.out hb9)
              have HM9 := Lib.hid (HM8.out.below hb9 HM8.out.lt)
              have HZ := Lib.hid (show Mem (w9.alloc (.cells (pfC zeroP).toArray Tpf)) w9.heap.size Tpf (pfC zeroP) from Mem.new w9 Tpf _)
              have HBZ := Lib.hid (belowSelf w9 (.cells (pfC zeroP).toArray Tpf))
              clear hb9 HB8 HM8
              go_upto_region 28 with (first
                | (refine wp_store_gen HBZ.out (Nat.le_refl _) HZ.out (pfC R) Tpf (.tmp 17) (.tmp 115) rfl rfl rfl HRV.out HI.out HLL.out HON.out ?_
                   intro W4 hm4 hb4 hz4 ho4
                   have HB10 := Lib.hid (belowThen HB9.out hb4)
                   have HM10 := Lib.hid (HM9.out.below hb4 HM9.out.lt)
                   have HP10 := Lib.hid hm4
                   clear hm4 hb4 hz4 ho4)
                | fail)
              clear HZ HBZ HB9 HM9
              have HPY := Lib.hid (HPX.out.on HB10.out)
              have HSP := Lib.hid (fun p : Bw _ => HSC.out p.W (belowThen HB10.out p.h))
              have HUP := Lib.hid (fun p : Bw _ => HUN.out p.W (belowThen HB10.out p.h))
              have HMP := Lib.hid (fun p : Bw _ => HMY.out p.W (belowThen HB10.out p.h))
              have HRP := Lib.hid (fun p : Bw _ => HRM.out p.W (belowThen HB10.out p.h))
              have HC1 := Lib.hid (fun p : Bw _ => show p.W.cell? ⟨w7.heap.size, 1, none⟩ = some (iv s) from (HM10.out.below p.h HM10.out.lt).cell 1)
              have HC3 := Lib.hid (fun p : Bw _ => show p.W.cell? ⟨w7.heap.size, 3, none⟩ = some (iv un) from (HM10.out.below p.h HM10.out.lt).cell 3)
              have HC4 := Lib.hid (fun p : Bw _ => show p.W.cell? ⟨w7.heap.size, 4, none⟩ = some (.bool true) from (HM10.out.below p.h HM10.out.lt).cell 4)
              have HC7 := Lib.hid (fun p : Bw _ => show p.W.cell? ⟨w7.heap.size, 7, none⟩ = some (tx q3) from (HM10.out.below p.h HM10.out.lt).cell 7)
              have HC33 := Lib.hid (fun p : Bw _ => show p.W.cell? ⟨w9.heap.size, 33, none⟩ = some (tx q3) from HT3.out ▸ (pf_cells (HP10.out.below p.h HP10.out.lt) HR32.out).2.2)
              have hc33 := HC33.out
              have hc1 := HC1.out
              have hc3 := HC3.out
              have hc4 := HC4.out
              have hc7 := HC7.out
              refine wp_region_bw (by kernel_rfl) (by kernel_rfl) ?_
              iterate 7 (quiet_step ((first
                    | (go_at_call 21; rename_i p; exact Bw.call (HSP.out p))
                    | (go_at_call 22; rename_i p; exact Bw.call (HUP.out p))
                    | (go_at_call 23; rename_i p; exact Bw.call (HMP.out p))
                    | (go_at_call 24; rename_i p; exact Bw.call (HRP.out p)))))
              iterate 35 (go_big_quiet_step ((first
                    | (go_at_call 21; rename_i p; exact Bw.call (HSP.out p))
                    | (go_at_call 22; rename_i p; exact Bw.call (HUP.out p))
                    | (go_at_call 23; rename_i p; exact Bw.call (HMP.out p))
                    | (go_at_call 24; rename_i p; exact Bw.call (HRP.out p)))))
              refine wpQuiet_nil ?_
              rintro _ ⟨p, rfl⟩
              have HPZ := Lib.hid (HPY.out.on p.h)
              clear hc1 hc3 hc4 hc7 HC1 HC3 HC4 HC7 HSP HUP HMP HRP hc33 HC33
              go_wp2_with fail
              go_roundw
              case rel => exact ⟨i + 1, now, by omega, by omega, rfl, by go_num, Lib.hid ⟨Me, Be, le, HVX.out, HPZ.out⟩⟩
              case measure => simp [intOf]; omega
      by_cases hk2 : kd = 2
      · as_aux_lemma =>
          subst hk2
          have HUM := Lib.hid HP1.out.b.v.uq
          go_wp2_with fail
          refine (HP1.out.b.silent HNI.out (now := now) (by have := HNW.out; omega) (by have := HLN.out; omega)).mono ?_
          rintro e w5 ⟨rfl, hl5, hg5⟩
          have HL5 := Lib.hid hl5
          have HR5 := Lib.hid (HP1.out.r.past (MpS.block HP1.out.b.v.t) hg5)
          clear hl5 hg5 e0 e1 e2 e3 e4
          go_wp2_with fail
          refine (rsilent_any HR5.out (by have := HLN.out; omega) n (now := now) ⟨HOKX.out.1, HOKX.out.2.1, HOKX.out.2.2.1, HOKX.out.2.2.2.1⟩ (by have := HNW.out; omega)).mono ?_
          rintro e wE ⟨vE, rfl, hr, hbE⟩
          have HPE := Lib.hid (show Pst W k mb bb _ B vE _ wE from ⟨HL5.out.on hbE, hr, HP1.out.s.sil HUM.out n now⟩)
          have HVE := Lib.hid (HVG.out _ _ _ (HV.out.sil HD.out HUM.out n now (silX (atL l n) now)))
          clear hr hbE HL5 HR5
          have HX := Lib.hid (show ∃ Me Be le, PI Me Be le now (i + 1) ∧ Pst W k mb bb Me Be vE le wE from ⟨_, _, _, HVE.out, HPE.out⟩)
          obtain ⟨Me, Be, le, hVE, hPE⟩ := HX.out
          have HVX := Lib.hid hVE
          have HPX := Lib.hid hPE
          clear hVE hPE HX HVE HPE
          obtain ⟨s, wt, un, b, m, ⟨q1, q2, q3⟩, R, hAT, hBN, hSC, hUN, hMY, hRM, hR32, htx⟩ := tail_facts HPX.out (by have := HVX.out.l; omega) HNI.out now
          simp only at hAT htx
          obtain ⟨rV, hrV⟩ : ∃ rV, rV = (.agg (pfC R).toArray : Value) := ⟨_, rfl⟩
          simp only [← hrV] at hBN
          have HRV := Lib.hid hrV
          have HAT := Lib.hid hAT
          have HBN := Lib.hid hBN
          have HSC := Lib.hid hSC
          have HUN := Lib.hid hUN
          have HMY := Lib.hid hMY
          have HRM := Lib.hid hRM
          have HR32 := Lib.hid hR32
          have HTX := Lib.hid htx
          have HI := Lib.hid (sz_pf R hR32)
          have HON := Lib.hid (one_pfC R)
          have HLL := Lib.hid (show (pfC zeroP).length = (pfC R).length from (len_pfC (p := zeroP) rfl).trans (len_pfC hR32).symm)
          clear hrV hAT hBN hSC hUN hMY hRM hR32 htx
          cases b with
          | false =>
            as_aux_lemma =>
              go_wp2_with fail
              refine (HAT.out _ (Below.refl _ _)).mono ?_
              rintro e w7 ⟨rfl, hb7⟩
              have HB8 := Lib.hid (belowThen hb7 (belowSelf w7 (.cells #[iv n, iv s, iv wt, iv un, .bool false, iv q1, tx q2, tx q3] Tmi)))
              have HM8 := Lib.hid (Mem.new w7 Tmi [iv n, iv s, iv wt, iv un, .bool false, iv q1, tx q2, tx q3])
              clear hb7
              go_wp2_with fail
              refine (HBN.out _ HB8.out).mono ?_
              rintro e w9 ⟨rfl, hb9⟩
              have HB9 := Lib.hid (belowThen HB8.out hb9)
              have HM9 := Lib.hid (HM8.out.below hb9 HM8.out.lt)
              have HZ := Lib.hid (show Mem (w9.alloc (.cells (pfC zeroP).toArray Tpf)) w9.heap.size Tpf (pfC zeroP) from Mem.new w9 Tpf _)
              have HBZ := Lib.hid (belowSelf w9 (.cells (pfC zeroP).toArray Tpf))
              clear hb9 HB8 HM8
              go_upto_region 28 with (first
                | (refine wp_store_gen HBZ.out (Nat.le_refl _) HZ.out (pfC R) Tpf (.tmp 17) (.tmp 115) rfl rfl rfl HRV.out HI.out HLL.out HON.out ?_
                   intro W4 hm4 hb4 hz4 ho4
                   have HB10 := Lib.hid (belowThen HB9.out hb4)
                   have HM10 := Lib.hid (HM9.out.below hb4 HM9.out.lt)
                   have HP10 := Lib.hid hm4
                   clear hm4 hb4 hz4 ho4)
                | fail)
              clear HZ HBZ HB9 HM9
              have HPY := Lib.hid (HPX.out.on HB10.out)
              have HSP := Lib.hid (fun p : Bw _ => HSC.out p.W (belowThen HB10.out p.h))
              have HUP := Lib.hid (fun p : Bw _ => HUN.out p.W (belowThen HB10.out p.h))
              have HMP := Lib.hid (fun p : Bw _ => HMY.out p.W (belowThen HB10.out p.h))
              have HRP := Lib.hid (fun p : Bw _ => HRM.out p.W (belowThen HB10.out p.h))
              have HC1 := Lib.hid (fun p : Bw _ => show p.W.cell? ⟨w7.heap.size, 1, none⟩ = some (iv s) from (HM10.out.below p.h HM10.out.lt).cell 1)
              have HC3 := Lib.hid (fun p : Bw _ => show p.W.cell? ⟨w7.heap.size, 3, none⟩ = some (iv un) from (HM10.out.below p.h HM10.out.lt).cell 3)
              have HC4 := Lib.hid (fun p : Bw _ => show p.W.cell? ⟨w7.heap.size, 4, none⟩ = some (.bool false) from (HM10.out.below p.h HM10.out.lt).cell 4)
              have HC7 := Lib.hid (fun p : Bw _ => show p.W.cell? ⟨w7.heap.size, 7, none⟩ = some (tx q3) from (HM10.out.below p.h HM10.out.lt).cell 7)
              have hc1 := HC1.out
              have hc3 := HC3.out
              have hc4 := HC4.out
              have hc7 := HC7.out
              refine wp_region_bw (by kernel_rfl) (by kernel_rfl) ?_
              iterate 7 (quiet_step ((first
                    | (go_at_call 21; rename_i p; exact Bw.call (HSP.out p))
                    | (go_at_call 22; rename_i p; exact Bw.call (HUP.out p))
                    | (go_at_call 23; rename_i p; exact Bw.call (HMP.out p))
                    | (go_at_call 24; rename_i p; exact Bw.call (HRP.out p)))))
              iterate 35 (go_big_quiet_step ((first
                    | (go_at_call 21; rename_i p; exact Bw.call (HSP.out p))
                    | (go_at_call 22; rename_i p; exact Bw.call (HUP.out p))
                    | (go_at_call 23; rename_i p; exact Bw.call (HMP.out p))
                    | (go_at_call 24; rename_i p; exact Bw.call (HRP.out p)))))
              refine wpQuiet_nil ?_
              rintro _ ⟨p, rfl⟩
              have HPZ := Lib.hid (HPY.out.on p.h)
              clear hc1 hc3 hc4 hc7 HC1 HC3 HC4 HC7 HSP HUP HMP HRP
              go_wp2_with fail
              go_roundw
              case rel => exact ⟨i + 1, now, by omega, by omega, rfl, by go_num, Lib.hid ⟨Me, Be, le, HVX.out, HPZ.out⟩⟩
              case measure => simp [intOf]; omega
          | true =>
            have HT3 := Lib.hid (show R.2.2 = q3 from HTX.out rfl)
            as_aux_lemma =>
              go_wp2_with fail
              refine (HAT.out _ (Below.refl _ _)).mono ?_
              rintro e w7 ⟨rfl, hb7⟩
              have HB8 := Lib.hid (belowThen hb7 (belowSelf w7 (.cells #[iv n, iv s, iv wt, iv un, .bool true, iv q1, tx q2, tx q3] Tmi)))
              have HM8 := Lib.hid (Mem.new w7 Tmi [iv n, iv s, iv wt, iv un, .bool true, iv q1, tx q2, tx q3])
              clear hb7
              go_wp2_with fail
              refine (HBN.out _ HB8.out).mono ?_
              rintro e w9 ⟨rfl, hb9⟩
              have HB9 := Lib.hid (belowThen HB8.out hb9)
              have HM9 := Lib.hid (HM8.out.below hb9 HM8.out.lt)
              have HZ := Lib.hid (show Mem (w9.alloc (.cells (pfC zeroP).toArray Tpf)) w9.heap.size Tpf (pfC zeroP) from Mem.new w9 Tpf _)
              have HBZ := Lib.hid (belowSelf w9 (.cells (pfC zeroP).toArray Tpf))
              clear hb9 HB8 HM8
              go_upto_region 28 with (first
                | (refine wp_store_gen HBZ.out (Nat.le_refl _) HZ.out (pfC R) Tpf (.tmp 17) (.tmp 115) rfl rfl rfl HRV.out HI.out HLL.out HON.out ?_
                   intro W4 hm4 hb4 hz4 ho4
                   have HB10 := Lib.hid (belowThen HB9.out hb4)
                   have HM10 := Lib.hid (HM9.out.below hb4 HM9.out.lt)
                   have HP10 := Lib.hid hm4
                   clear hm4 hb4 hz4 ho4)
                | fail)
              clear HZ HBZ HB9 HM9
              have HPY := Lib.hid (HPX.out.on HB10.out)
              have HSP := Lib.hid (fun p : Bw _ => HSC.out p.W (belowThen HB10.out p.h))
              have HUP := Lib.hid (fun p : Bw _ => HUN.out p.W (belowThen HB10.out p.h))
              have HMP := Lib.hid (fun p : Bw _ => HMY.out p.W (belowThen HB10.out p.h))
              have HRP := Lib.hid (fun p : Bw _ => HRM.out p.W (belowThen HB10.out p.h))
              have HC1 := Lib.hid (fun p : Bw _ => show p.W.cell? ⟨w7.heap.size, 1, none⟩ = some (iv s) from (HM10.out.below p.h HM10.out.lt).cell 1)
              have HC3 := Lib.hid (fun p : Bw _ => show p.W.cell? ⟨w7.heap.size, 3, none⟩ = some (iv un) from (HM10.out.below p.h HM10.out.lt).cell 3)
              have HC4 := Lib.hid (fun p : Bw _ => show p.W.cell? ⟨w7.heap.size, 4, none⟩ = some (.bool true) from (HM10.out.below p.h HM10.out.lt).cell 4)
              have HC7 := Lib.hid (fun p : Bw _ => show p.W.cell? ⟨w7.heap.size, 7, none⟩ = some (tx q3) from (HM10.out.below p.h HM10.out.lt).cell 7)
              have HC33 := Lib.hid (fun p : Bw _ => show p.W.cell? ⟨w9.heap.size, 33, none⟩ = some (tx q3) from HT3.out ▸ (pf_cells (HP10.out.below p.h HP10.out.lt) HR32.out).2.2)
              have hc33 := HC33.out
              have hc1 := HC1.out
              have hc3 := HC3.out
              have hc4 := HC4.out
              have hc7 := HC7.out
              refine wp_region_bw (by kernel_rfl) (by kernel_rfl) ?_
              iterate 7 (quiet_step ((first
                    | (go_at_call 21; rename_i p; exact Bw.call (HSP.out p))
                    | (go_at_call 22; rename_i p; exact Bw.call (HUP.out p))
                    | (go_at_call 23; rename_i p; exact Bw.call (HMP.out p))
                    | (go_at_call 24; rename_i p; exact Bw.call (HRP.out p)))))
              iterate 35 (go_big_quiet_step ((first
                    | (go_at_call 21; rename_i p; exact Bw.call (HSP.out p))
                    | (go_at_call 22; rename_i p; exact Bw.call (HUP.out p))
                    | (go_at_call 23; rename_i p; exact Bw.call (HMP.out p))
                    | (go_at_call 24; rename_i p; exact Bw.call (HRP.out p)))))
              refine wpQuiet_nil ?_
              rintro _ ⟨p, rfl⟩
              have HPZ := Lib.hid (HPY.out.on p.h)
              clear hc1 hc3 hc4 hc7 HC1 HC3 HC4 HC7 HSP HUP HMP HRP hc33 HC33
              go_wp2_with fail
              go_roundw
              case rel => exact ⟨i + 1, now, by omega, by omega, rfl, by go_num, Lib.hid ⟨Me, Be, le, HVX.out, HPZ.out⟩⟩
              case measure => simp [intOf]; omega
      by_cases hk3 : kd = 3
      · as_aux_lemma =>
          subst hk3
          have HP1B := Lib.hid HP1.out
          clear HP1
          obtain ⟨P, hP⟩ : ∃ P, P = pfOf (3, n0, by_, text, real) := ⟨_, rfl⟩
          obtain ⟨pV, hpV⟩ : ∃ pV, pV = (.agg (pfC P).toArray : Value) := ⟨_, rfl⟩
          obtain ⟨rV, hrV⟩ : ∃ rV, rV = (.agg (rpC P).toArray : Value) := ⟨_, rfl⟩
          have HPR := Lib.hid (fun w (h : Consts w) => show Calls Tryd.prog 14 #[.agg (arC (3, n0, by_, text, real)).toArray] w fun e w' => e = .returned (.tuple #[pV, rV]) ∧ Below w.heap.size w w' from by rw [hpV, hrV, hP]; exact proof_any (3, n0, by_, text, real) w h)
          have HP1 := Lib.hid (show P.1 = 1 from by rw [hP]; rfl)
          have HPL := Lib.hid (show P.2.1.length = 32 from by rw [hP]; rfl)
          have HPT := Lib.hid (show P.2.2.length ≤ 1000000 from by rw [hP]; exact (pfOf_ok _).2.2)
          have HPV := Lib.hid hpV
          have HRV := Lib.hid hrV
          have HI := Lib.hid (sz_pf P HPL.out)
          have HI3 := Lib.hid (show (Tryd.prog.info? Trp).map (·.size) = some (rpC P).length from by kernel_rfl)
          have HLL := Lib.hid (show (pfC zeroP).length = (pfC P).length from by rw [len_pfC HPL.out]; rfl)
          have HON := Lib.hid (one_pfC P)
          have HON3 := Lib.hid (show ∀ u ∈ rpC P, u.oneCell' = true from by intro u hu; simp only [rpC, List.mem_cons, List.mem_nil_iff, or_false] at hu; rcases hu with rfl | rfl | rfl <;> rfl)
          have HUB := Lib.hid HP1B.out.b.v.uqb
          have HCW := Lib.hid (HC.out.on HP1B.out.b.bel)
          clear hP hpV hrV
          go_wp2_with fail
          refine (HPR.out wa HCW.out).mono ?_
          rintro e w5 ⟨rfl, hb5⟩
          have HJ5 := Lib.hid (HP1B.out.on hb5)
          clear hb5 e0 e1 e2 e3 e4
          have HZ34 := Lib.hid (show Mem ((w5.alloc (.cells (pfC zeroP).toArray Tpf)).alloc (.cells (rpC (0, [], [])).toArray Trp)) w5.heap.size Tpf (pfC zeroP) from (Mem.new w5 Tpf _).alloc _)
          have HZ3 := Lib.hid (show Mem ((w5.alloc (.cells (pfC zeroP).toArray Tpf)).alloc (.cells (rpC (0, [], [])).toArray Trp)) (w5.heap.size + 1) Trp (rpC (0, [], [])) from Mem.newAt _ Trp _ (by simp))
          have HB34 := Lib.hid (show Below w5.heap.size w5 ((w5.alloc (.cells (pfC zeroP).toArray Tpf)).alloc (.cells (rpC (0, [], [])).toArray Trp)) from belowThen (belowSelf w5 _) (belowSelf _ _))
          go_wp2_with (first
          | (refine wp_store_gen HB34.out (Nat.le_refl _) HZ34.out (pfC P) Tpf (.tmp 11) (.tmp 75) rfl rfl rfl HPV.out HI.out HLL.out HON.out ?_
             intro W4 hm4 hb4 hz4 ho4
             have HM4 := Lib.hid hm4
             have HB4 := Lib.hid hb4
             have HZ4 := Lib.hid (show Mem W4 (w5.heap.size + 1) Trp (rpC (0, [], [])) from (ho4 _ (by omega)).trans HZ3.out)
             clear hm4 hb4 hz4 ho4)
          | (refine wp_store_gen HB4.out (Nat.le_succ _) HZ4.out (rpC P) Trp (.tmp 12) (.tmp 76) rfl rfl rfl HRV.out HI3.out rfl HON3.out ?_
             intro W6 hm6 hb6 hz6 ho6
             have HM6 := Lib.hid (show Mem W6 w5.heap.size Tpf (pfC P) from (ho6 _ (by omega)).trans HM4.out)
             have HR6 := Lib.hid hm6
             have HJ6 := Lib.hid (HJ5.out.on hb6)
             have hld6 := ld_pf_at HM6.out HPL.out
             clear hm6 hb6 hz6 ho6)
          | fail)
          have hbn := HJ6.out.b.ban HC.out HNI.out P HP1.out HPL.out HPT.out (by have := HLN.out; omega)
          obtain ⟨hh, hhe⟩ : ∃ b, b = holdsP P := ⟨_, rfl⟩
          have HRB := Lib.hid (fun W8 (hr : RdM W8 u6 l) => show Calls Tryd.prog 16 #[u6, iv n, .agg (rpC P).toArray] W8 fun e w' => ∃ u, e = .returned (.tuple #[u, .bool hh]) ∧ RdM w' u (if hh = true then setL l (banX (atL l n) P) else l) ∧ Below W8.heap.size W8 w' from by
            rw [hhe]
            exact rban_any hr (by have := HLN.out; omega) n P HP1.out HPT.out)
          have HHO1 := Lib.hid (fun W8 (hc : Consts W8) => show Calls Tryd.prog 17 #[.agg (pfC P).toArray] W8 fun e w' => e = .returned (.bool hh) ∧ Below W8.heap.size W8 w' from by
            rw [hhe]
            exact holds_any P W8 hc HP1.out HPL.out HPT.out)
          have HHO2 := Lib.hid (fun W8 => show Calls Tryd.prog 18 #[.agg (rpC P).toArray] W8 fun e w' => e = .returned (.bool hh) ∧ Below W8.heap.size W8 w' from by
            rw [hhe]
            exact rholds_any P HP1.out HPT.out W8)
          rw [← hhe] at hbn
          clear hhe
          cases hh with
          | false =>
            simp only [Bool.false_eq_true, if_false] at hbn HRB
            refine hbn.mono ?_
            rintro e w8 ⟨rfl, hl8, hg8⟩
            have HL8 := Lib.hid hl8
            have HR8 := Lib.hid (HJ6.out.r.past (MpS.block HJ6.out.b.v.u) hg8)
            have HM8 := Lib.hid (show Mem w8 w5.heap.size Tpf (pfC P) from (hg8.block _ HM6.out.lt (fun e => mem_ne_map HM6.out (MpS.block HJ6.out.b.v.u) (Option.some.inj e))).trans HM6.out)
            have HQ8 := Lib.hid (show Mem w8 (w5.heap.size + 1) Trp (rpC P) from (hg8.block _ HR6.out.lt (fun e => mem_ne_map HR6.out (MpS.block HJ6.out.b.v.u) (Option.some.inj e))).trans HR6.out)
            have q0 : w8.cell? ⟨w5.heap.size + 1, 0, none⟩ = some (iv P.1) := HQ8.out.cell 0
            have q1 : w8.cell? ⟨w5.heap.size + 1, 1, none⟩ = some (tx P.2.1) := HQ8.out.cell 1
            have q2 : w8.cell? ⟨w5.heap.size + 1, 2, none⟩ = some (tx P.2.2) := HQ8.out.cell 2
            clear hl8 hg8 hbn hld6 HM6 HR6 HJ6
            go_wp2_with fail
            refine (HRB.out w8 HR8.out).mono ?_
            rintro e w9 ⟨vE, rfl, hr9, hb9⟩
            have HR9 := Lib.hid hr9
            have HL9 := Lib.hid (HL8.out.on hb9)
            have HM9 := Lib.hid (HM8.out.below hb9 HM8.out.lt)
            have HQ9 := Lib.hid (HQ8.out.below hb9 HQ8.out.lt)
            clear hr9 hb9 q0 q1 q2 HL8 HR8 HM8 HQ8 HRB
            have HH1 := Lib.hid (fun p : Bw w9 => HHO1.out p.W (HC.out.on (HL9.out.on p.h).bel))
            have HH2 := Lib.hid (fun p : Bw w9 => HHO2.out p.W)
            have HLD := Lib.hid (fun p : Bw w9 => ld_pf_at (HM9.out.below p.h HM9.out.lt) HPL.out)
            have HQ0 := Lib.hid (fun p : Bw w9 => show p.W.cell? ⟨w5.heap.size + 1, 0, none⟩ = some (iv P.1) from (HQ9.out.below p.h HQ9.out.lt).cell 0)
            have HQ1 := Lib.hid (fun p : Bw w9 => show p.W.cell? ⟨w5.heap.size + 1, 1, none⟩ = some (tx P.2.1) from (HQ9.out.below p.h HQ9.out.lt).cell 1)
            have HQ2 := Lib.hid (fun p : Bw w9 => show p.W.cell? ⟨w5.heap.size + 1, 2, none⟩ = some (tx P.2.2) from (HQ9.out.below p.h HQ9.out.lt).cell 2)
            go_wp2_with fail
            have hld := HLD.out
            have hq0 := HQ0.out
            have hq1 := HQ1.out
            have hq2 := HQ2.out
            refine wp_region_bw (by kernel_rfl) (by kernel_rfl) ?_
            iterate 5 (quiet_step ((first
                | (go_at_call 17; rename_i p; exact Bw.call (HH1.out p))
                | (go_at_call 18; rename_i p; exact Bw.call (HH2.out p)))))
            iterate 14 (go_big_quiet_step ((first
                | (go_at_call 17; rename_i p; exact Bw.call (HH1.out p))
                | (go_at_call 18; rename_i p; exact Bw.call (HH2.out p)))))
            refine wpQuiet_nil ?_
            rintro _ ⟨p, rfl⟩
            have HPE := Lib.hid (show Pst W k mb bb M _ vE _ p.W from ⟨HL9.out.on p.h, HR9.out.below p.h, HP1B.out.s⟩)
            have HVE := Lib.hid (HVG.out _ _ _ (HV.out.time HD.out))
            obtain ⟨wE, hwE⟩ : ∃ wE, wE = p.W := ⟨_, rfl⟩
            rw [← hwE] at HPE ⊢
            clear hwE hld hq0 hq1 hq2 HLD HQ0 HQ1 HQ2 HH1 HH2 HHO1 HHO2 p HL9 HR9 HM9 HQ9
            have HX := Lib.hid (show ∃ Me Be le, PI Me Be le now (i + 1) ∧ Pst W k mb bb Me Be vE le wE from ⟨_, _, _, HVE.out, HPE.out⟩)
            obtain ⟨Me, Be, le, hVE, hPE⟩ := HX.out
            have HVX := Lib.hid hVE
            have HPX := Lib.hid hPE
            clear hVE hPE HX HVE HPE
            obtain ⟨s, wt, un, b, m, ⟨q1, q2, q3⟩, R, hAT, hBN, hSC, hUN, hMY, hRM, hR32, htx⟩ := tail_facts HPX.out (by have := HVX.out.l; omega) HNI.out now
            simp only at hAT htx
            obtain ⟨rV, hrV⟩ : ∃ rV, rV = (.agg (pfC R).toArray : Value) := ⟨_, rfl⟩
            simp only [← hrV] at hBN
            have HRV := Lib.hid hrV
            have HAT := Lib.hid hAT
            have HBN := Lib.hid hBN
            have HSC := Lib.hid hSC
            have HUN := Lib.hid hUN
            have HMY := Lib.hid hMY
            have HRM := Lib.hid hRM
            have HR32 := Lib.hid hR32
            have HTX := Lib.hid htx
            have HI := Lib.hid (sz_pf R hR32)
            have HON := Lib.hid (one_pfC R)
            have HLL := Lib.hid (show (pfC zeroP).length = (pfC R).length from (len_pfC (p := zeroP) rfl).trans (len_pfC hR32).symm)
            clear hrV hAT hBN hSC hUN hMY hRM hR32 htx
            cases b with
            | false =>
              as_aux_lemma =>
                go_wp2_with fail
                refine (HAT.out _ (Below.refl _ _)).mono ?_
                rintro e w7 ⟨rfl, hb7⟩
                have HB8 := Lib.hid (belowThen hb7 (belowSelf w7 (.cells #[iv n, iv s, iv wt, iv un, .bool false, iv q1, tx q2, tx q3] Tmi)))
                have HM8 := Lib.hid (Mem.new w7 Tmi [iv n, iv s, iv wt, iv un, .bool false, iv q1, tx q2, tx q3])
                clear hb7
                go_wp2_with fail
                refine (HBN.out _ HB8.out).mono ?_
                rintro e w9 ⟨rfl, hb9⟩
                have HB9 := Lib.hid (belowThen HB8.out hb9)
                have HM9 := Lib.hid (HM8.out.below hb9 HM8.out.lt)
                have HZ := Lib.hid (show Mem (w9.alloc (.cells (pfC zeroP).toArray Tpf)) w9.heap.size Tpf (pfC zeroP) from Mem.new w9 Tpf _)
                have HBZ := Lib.hid (belowSelf w9 (.cells (pfC zeroP).toArray Tpf))
                clear hb9 HB8 HM8
                go_upto_region 28 with (first
                  | (refine wp_store_gen HBZ.out (Nat.le_refl _) HZ.out (pfC R) Tpf (.tmp 17) (.tmp 115) rfl rfl rfl HRV.out HI.out HLL.out HON.out ?_
                     intro W4 hm4 hb4 hz4 ho4
                     have HB10 := Lib.hid (belowThen HB9.out hb4)
                     have HM10 := Lib.hid (HM9.out.below hb4 HM9.out.lt)
                     have HP10 := Lib.hid hm4
                     clear hm4 hb4 hz4 ho4)
                  | fail)
                clear HZ HBZ HB9 HM9
                have HPY := Lib.hid (HPX.out.on HB10.out)
                have HSP := Lib.hid (fun p : Bw _ => HSC.out p.W (belowThen HB10.out p.h))
                have HUP := Lib.hid (fun p : Bw _ => HUN.out p.W (belowThen HB10.out p.h))
                have HMP := Lib.hid (fun p : Bw _ => HMY.out p.W (belowThen HB10.out p.h))
                have HRP := Lib.hid (fun p : Bw _ => HRM.out p.W (belowThen HB10.out p.h))
                have HC1 := Lib.hid (fun p : Bw _ => show p.W.cell? ⟨w7.heap.size, 1, none⟩ = some (iv s) from (HM10.out.below p.h HM10.out.lt).cell 1)
                have HC3 := Lib.hid (fun p : Bw _ => show p.W.cell? ⟨w7.heap.size, 3, none⟩ = some (iv un) from (HM10.out.below p.h HM10.out.lt).cell 3)
                have HC4 := Lib.hid (fun p : Bw _ => show p.W.cell? ⟨w7.heap.size, 4, none⟩ = some (.bool false) from (HM10.out.below p.h HM10.out.lt).cell 4)
                have HC7 := Lib.hid (fun p : Bw _ => show p.W.cell? ⟨w7.heap.size, 7, none⟩ = some (tx q3) from (HM10.out.below p.h HM10.out.lt).cell 7)
                have hc1 := HC1.out
                have hc3 := HC3.out
                have hc4 := HC4.out
                have hc7 := HC7.out
                refine wp_region_bw (by kernel_rfl) (by kernel_rfl) ?_
                iterate 7 (quiet_step ((first
                      | (go_at_call 21; rename_i p; exact Bw.call (HSP.out p))
                      | (go_at_call 22; rename_i p; exact Bw.call (HUP.out p))
                      | (go_at_call 23; rename_i p; exact Bw.call (HMP.out p))
                      | (go_at_call 24; rename_i p; exact Bw.call (HRP.out p)))))
                iterate 35 (go_big_quiet_step ((first
                      | (go_at_call 21; rename_i p; exact Bw.call (HSP.out p))
                      | (go_at_call 22; rename_i p; exact Bw.call (HUP.out p))
                      | (go_at_call 23; rename_i p; exact Bw.call (HMP.out p))
                      | (go_at_call 24; rename_i p; exact Bw.call (HRP.out p)))))
                refine wpQuiet_nil ?_
                rintro _ ⟨p, rfl⟩
                have HPZ := Lib.hid (HPY.out.on p.h)
                clear hc1 hc3 hc4 hc7 HC1 HC3 HC4 HC7 HSP HUP HMP HRP
                go_wp2_with fail
                go_roundw
                case rel => exact ⟨i + 1, now, by omega, by omega, rfl, by go_num, Lib.hid ⟨Me, Be, le, HVX.out, HPZ.out⟩⟩
                case measure => simp [intOf]; omega
            | true =>
              have HT3 := Lib.hid (show R.2.2 = q3 from HTX.out rfl)
              as_aux_lemma =>
                go_wp2_with fail
                refine (HAT.out _ (Below.refl _ _)).mono ?_
                rintro e w7 ⟨rfl, hb7⟩
                have HB8 := Lib.hid (belowThen hb7 (belowSelf w7 (.cells #[iv n, iv s, iv wt, iv un, .bool true, iv q1, tx q2, tx q3] Tmi)))
                have HM8 := Lib.hid (Mem.new w7 Tmi [iv n, iv s, iv wt, iv un, .bool true, iv q1, tx q2, tx q3])
                clear hb7
                go_wp2_with fail
                refine (HBN.out _ HB8.out).mono ?_
                rintro e w9 ⟨rfl, hb9⟩
                have HB9 := Lib.hid (belowThen HB8.out hb9)
                have HM9 := Lib.hid (HM8.out.below hb9 HM8.out.lt)
                have HZ := Lib.hid (show Mem (w9.alloc (.cells (pfC zeroP).toArray Tpf)) w9.heap.size Tpf (pfC zeroP) from Mem.new w9 Tpf _)
                have HBZ := Lib.hid (belowSelf w9 (.cells (pfC zeroP).toArray Tpf))
                clear hb9 HB8 HM8
                go_upto_region 28 with (first
                  | (refine wp_store_gen HBZ.out (Nat.le_refl _) HZ.out (pfC R) Tpf (.tmp 17) (.tmp 115) rfl rfl rfl HRV.out HI.out HLL.out HON.out ?_
                     intro W4 hm4 hb4 hz4 ho4
                     have HB10 := Lib.hid (belowThen HB9.out hb4)
                     have HM10 := Lib.hid (HM9.out.below hb4 HM9.out.lt)
                     have HP10 := Lib.hid hm4
                     clear hm4 hb4 hz4 ho4)
                  | fail)
                clear HZ HBZ HB9 HM9
                have HPY := Lib.hid (HPX.out.on HB10.out)
                have HSP := Lib.hid (fun p : Bw _ => HSC.out p.W (belowThen HB10.out p.h))
                have HUP := Lib.hid (fun p : Bw _ => HUN.out p.W (belowThen HB10.out p.h))
                have HMP := Lib.hid (fun p : Bw _ => HMY.out p.W (belowThen HB10.out p.h))
                have HRP := Lib.hid (fun p : Bw _ => HRM.out p.W (belowThen HB10.out p.h))
                have HC1 := Lib.hid (fun p : Bw _ => show p.W.cell? ⟨w7.heap.size, 1, none⟩ = some (iv s) from (HM10.out.below p.h HM10.out.lt).cell 1)
                have HC3 := Lib.hid (fun p : Bw _ => show p.W.cell? ⟨w7.heap.size, 3, none⟩ = some (iv un) from (HM10.out.below p.h HM10.out.lt).cell 3)
                have HC4 := Lib.hid (fun p : Bw _ => show p.W.cell? ⟨w7.heap.size, 4, none⟩ = some (.bool true) from (HM10.out.below p.h HM10.out.lt).cell 4)
                have HC7 := Lib.hid (fun p : Bw _ => show p.W.cell? ⟨w7.heap.size, 7, none⟩ = some (tx q3) from (HM10.out.below p.h HM10.out.lt).cell 7)
                have HC33 := Lib.hid (fun p : Bw _ => show p.W.cell? ⟨w9.heap.size, 33, none⟩ = some (tx q3) from HT3.out ▸ (pf_cells (HP10.out.below p.h HP10.out.lt) HR32.out).2.2)
                have hc33 := HC33.out
                have hc1 := HC1.out
                have hc3 := HC3.out
                have hc4 := HC4.out
                have hc7 := HC7.out
                refine wp_region_bw (by kernel_rfl) (by kernel_rfl) ?_
                iterate 7 (quiet_step ((first
                      | (go_at_call 21; rename_i p; exact Bw.call (HSP.out p))
                      | (go_at_call 22; rename_i p; exact Bw.call (HUP.out p))
                      | (go_at_call 23; rename_i p; exact Bw.call (HMP.out p))
                      | (go_at_call 24; rename_i p; exact Bw.call (HRP.out p)))))
                iterate 35 (go_big_quiet_step ((first
                      | (go_at_call 21; rename_i p; exact Bw.call (HSP.out p))
                      | (go_at_call 22; rename_i p; exact Bw.call (HUP.out p))
                      | (go_at_call 23; rename_i p; exact Bw.call (HMP.out p))
                      | (go_at_call 24; rename_i p; exact Bw.call (HRP.out p)))))
                refine wpQuiet_nil ?_
                rintro _ ⟨p, rfl⟩
                have HPZ := Lib.hid (HPY.out.on p.h)
                clear hc1 hc3 hc4 hc7 HC1 HC3 HC4 HC7 HSP HUP HMP HRP hc33 HC33
                go_wp2_with fail
                go_roundw
                case rel => exact ⟨i + 1, now, by omega, by omega, rfl, by go_num, Lib.hid ⟨Me, Be, le, HVX.out, HPZ.out⟩⟩
                case measure => simp [intOf]; omega
          | true =>
            simp only [if_true] at hbn HRB
            refine hbn.mono ?_
            rintro e w8 ⟨rfl, hl8, hg8⟩
            have HL8 := Lib.hid hl8
            have HR8 := Lib.hid (HJ6.out.r.past (MpS.block HJ6.out.b.v.u) hg8)
            have HM8 := Lib.hid (show Mem w8 w5.heap.size Tpf (pfC P) from (hg8.block _ HM6.out.lt (fun e => mem_ne_map HM6.out (MpS.block HJ6.out.b.v.u) (Option.some.inj e))).trans HM6.out)
            have HQ8 := Lib.hid (show Mem w8 (w5.heap.size + 1) Trp (rpC P) from (hg8.block _ HR6.out.lt (fun e => mem_ne_map HR6.out (MpS.block HJ6.out.b.v.u) (Option.some.inj e))).trans HR6.out)
            have q0 : w8.cell? ⟨w5.heap.size + 1, 0, none⟩ = some (iv P.1) := HQ8.out.cell 0
            have q1 : w8.cell? ⟨w5.heap.size + 1, 1, none⟩ = some (tx P.2.1) := HQ8.out.cell 1
            have q2 : w8.cell? ⟨w5.heap.size + 1, 2, none⟩ = some (tx P.2.2) := HQ8.out.cell 2
            clear hl8 hg8 hbn hld6 HM6 HR6 HJ6
            go_wp2_with fail
            refine (HRB.out w8 HR8.out).mono ?_
            rintro e w9 ⟨vE, rfl, hr9, hb9⟩
            have HR9 := Lib.hid hr9
            have HL9 := Lib.hid (HL8.out.on hb9)
            have HM9 := Lib.hid (HM8.out.below hb9 HM8.out.lt)
            have HQ9 := Lib.hid (HQ8.out.below hb9 HQ8.out.lt)
            clear hr9 hb9 q0 q1 q2 HL8 HR8 HM8 HQ8 HRB
            have HH1 := Lib.hid (fun p : Bw w9 => HHO1.out p.W (HC.out.on (HL9.out.on p.h).bel))
            have HH2 := Lib.hid (fun p : Bw w9 => HHO2.out p.W)
            have HLD := Lib.hid (fun p : Bw w9 => ld_pf_at (HM9.out.below p.h HM9.out.lt) HPL.out)
            have HQ0 := Lib.hid (fun p : Bw w9 => show p.W.cell? ⟨w5.heap.size + 1, 0, none⟩ = some (iv P.1) from (HQ9.out.below p.h HQ9.out.lt).cell 0)
            have HQ1 := Lib.hid (fun p : Bw w9 => show p.W.cell? ⟨w5.heap.size + 1, 1, none⟩ = some (tx P.2.1) from (HQ9.out.below p.h HQ9.out.lt).cell 1)
            have HQ2 := Lib.hid (fun p : Bw w9 => show p.W.cell? ⟨w5.heap.size + 1, 2, none⟩ = some (tx P.2.2) from (HQ9.out.below p.h HQ9.out.lt).cell 2)
            go_wp2_with fail
            have hld := HLD.out
            have hq0 := HQ0.out
            have hq1 := HQ1.out
            have hq2 := HQ2.out
            refine wp_region_bw (by kernel_rfl) (by kernel_rfl) ?_
            iterate 5 (quiet_step ((first
                | (go_at_call 17; rename_i p; exact Bw.call (HH1.out p))
                | (go_at_call 18; rename_i p; exact Bw.call (HH2.out p)))))
            iterate 14 (go_big_quiet_step ((first
                | (go_at_call 17; rename_i p; exact Bw.call (HH1.out p))
                | (go_at_call 18; rename_i p; exact Bw.call (HH2.out p)))))
            refine wpQuiet_nil ?_
            rintro _ ⟨p, rfl⟩
            have HPE := Lib.hid (show Pst W k mb bb M _ vE _ p.W from ⟨HL9.out.on p.h, HR9.out.below p.h, HP1B.out.s.ban HUB.out n P⟩)
            have HVE := Lib.hid (HVG.out _ _ _ (HV.out.ban HD.out HUB.out n P (banX (atL l n) P)))
            obtain ⟨wE, hwE⟩ : ∃ wE, wE = p.W := ⟨_, rfl⟩
            rw [← hwE] at HPE ⊢
            clear hwE hld hq0 hq1 hq2 HLD HQ0 HQ1 HQ2 HH1 HH2 HHO1 HHO2 p HL9 HR9 HM9 HQ9
            have HX := Lib.hid (show ∃ Me Be le, PI Me Be le now (i + 1) ∧ Pst W k mb bb Me Be vE le wE from ⟨_, _, _, HVE.out, HPE.out⟩)
            obtain ⟨Me, Be, le, hVE, hPE⟩ := HX.out
            have HVX := Lib.hid hVE
            have HPX := Lib.hid hPE
            clear hVE hPE HX HVE HPE
            obtain ⟨s, wt, un, b, m, ⟨q1, q2, q3⟩, R, hAT, hBN, hSC, hUN, hMY, hRM, hR32, htx⟩ := tail_facts HPX.out (by have := HVX.out.l; omega) HNI.out now
            simp only at hAT htx
            obtain ⟨rV, hrV⟩ : ∃ rV, rV = (.agg (pfC R).toArray : Value) := ⟨_, rfl⟩
            simp only [← hrV] at hBN
            have HRV := Lib.hid hrV
            have HAT := Lib.hid hAT
            have HBN := Lib.hid hBN
            have HSC := Lib.hid hSC
            have HUN := Lib.hid hUN
            have HMY := Lib.hid hMY
            have HRM := Lib.hid hRM
            have HR32 := Lib.hid hR32
            have HTX := Lib.hid htx
            have HI := Lib.hid (sz_pf R hR32)
            have HON := Lib.hid (one_pfC R)
            have HLL := Lib.hid (show (pfC zeroP).length = (pfC R).length from (len_pfC (p := zeroP) rfl).trans (len_pfC hR32).symm)
            clear hrV hAT hBN hSC hUN hMY hRM hR32 htx
            cases b with
            | false =>
              as_aux_lemma =>
                go_wp2_with fail
                refine (HAT.out _ (Below.refl _ _)).mono ?_
                rintro e w7 ⟨rfl, hb7⟩
                have HB8 := Lib.hid (belowThen hb7 (belowSelf w7 (.cells #[iv n, iv s, iv wt, iv un, .bool false, iv q1, tx q2, tx q3] Tmi)))
                have HM8 := Lib.hid (Mem.new w7 Tmi [iv n, iv s, iv wt, iv un, .bool false, iv q1, tx q2, tx q3])
                clear hb7
                go_wp2_with fail
                refine (HBN.out _ HB8.out).mono ?_
                rintro e w9 ⟨rfl, hb9⟩
                have HB9 := Lib.hid (belowThen HB8.out hb9)
                have HM9 := Lib.hid (HM8.out.below hb9 HM8.out.lt)
                have HZ := Lib.hid (show Mem (w9.alloc (.cells (pfC zeroP).toArray Tpf)) w9.heap.size Tpf (pfC zeroP) from Mem.new w9 Tpf _)
                have HBZ := Lib.hid (belowSelf w9 (.cells (pfC zeroP).toArray Tpf))
                clear hb9 HB8 HM8
                go_upto_region 28 with (first
                  | (refine wp_store_gen HBZ.out (Nat.le_refl _) HZ.out (pfC R) Tpf (.tmp 17) (.tmp 115) rfl rfl rfl HRV.out HI.out HLL.out HON.out ?_
                     intro W4 hm4 hb4 hz4 ho4
                     have HB10 := Lib.hid (belowThen HB9.out hb4)
                     have HM10 := Lib.hid (HM9.out.below hb4 HM9.out.lt)
                     have HP10 := Lib.hid hm4
                     clear hm4 hb4 hz4 ho4)
                  | fail)
                clear HZ HBZ HB9 HM9
                have HPY := Lib.hid (HPX.out.on HB10.out)
                have HSP := Lib.hid (fun p : Bw _ => HSC.out p.W (belowThen HB10.out p.h))
                have HUP := Lib.hid (fun p : Bw _ => HUN.out p.W (belowThen HB10.out p.h))
                have HMP := Lib.hid (fun p : Bw _ => HMY.out p.W (belowThen HB10.out p.h))
                have HRP := Lib.hid (fun p : Bw _ => HRM.out p.W (belowThen HB10.out p.h))
                have HC1 := Lib.hid (fun p : Bw _ => show p.W.cell? ⟨w7.heap.size, 1, none⟩ = some (iv s) from (HM10.out.below p.h HM10.out.lt).cell 1)
                have HC3 := Lib.hid (fun p : Bw _ => show p.W.cell? ⟨w7.heap.size, 3, none⟩ = some (iv un) from (HM10.out.below p.h HM10.out.lt).cell 3)
                have HC4 := Lib.hid (fun p : Bw _ => show p.W.cell? ⟨w7.heap.size, 4, none⟩ = some (.bool false) from (HM10.out.below p.h HM10.out.lt).cell 4)
                have HC7 := Lib.hid (fun p : Bw _ => show p.W.cell? ⟨w7.heap.size, 7, none⟩ = some (tx q3) from (HM10.out.below p.h HM10.out.lt).cell 7)
                have hc1 := HC1.out
                have hc3 := HC3.out
                have hc4 := HC4.out
                have hc7 := HC7.out
                refine wp_region_bw (by kernel_rfl) (by kernel_rfl) ?_
                iterate 7 (quiet_step ((first
                      | (go_at_call 21; rename_i p; exact Bw.call (HSP.out p))
                      | (go_at_call 22; rename_i p; exact Bw.call (HUP.out p))
                      | (go_at_call 23; rename_i p; exact Bw.call (HMP.out p))
                      | (go_at_call 24; rename_i p; exact Bw.call (HRP.out p)))))
                iterate 35 (go_big_quiet_step ((first
                      | (go_at_call 21; rename_i p; exact Bw.call (HSP.out p))
                      | (go_at_call 22; rename_i p; exact Bw.call (HUP.out p))
                      | (go_at_call 23; rename_i p; exact Bw.call (HMP.out p))
                      | (go_at_call 24; rename_i p; exact Bw.call (HRP.out p)))))
                refine wpQuiet_nil ?_
                rintro _ ⟨p, rfl⟩
                have HPZ := Lib.hid (HPY.out.on p.h)
                clear hc1 hc3 hc4 hc7 HC1 HC3 HC4 HC7 HSP HUP HMP HRP
                go_wp2_with fail
                go_roundw
                case rel => exact ⟨i + 1, now, by omega, by omega, rfl, by go_num, Lib.hid ⟨Me, Be, le, HVX.out, HPZ.out⟩⟩
                case measure => simp [intOf]; omega
            | true =>
              have HT3 := Lib.hid (show R.2.2 = q3 from HTX.out rfl)
              as_aux_lemma =>
                go_wp2_with fail
                refine (HAT.out _ (Below.refl _ _)).mono ?_
                rintro e w7 ⟨rfl, hb7⟩
                have HB8 := Lib.hid (belowThen hb7 (belowSelf w7 (.cells #[iv n, iv s, iv wt, iv un, .bool true, iv q1, tx q2, tx q3] Tmi)))
                have HM8 := Lib.hid (Mem.new w7 Tmi [iv n, iv s, iv wt, iv un, .bool true, iv q1, tx q2, tx q3])
                clear hb7
                go_wp2_with fail
                refine (HBN.out _ HB8.out).mono ?_
                rintro e w9 ⟨rfl, hb9⟩
                have HB9 := Lib.hid (belowThen HB8.out hb9)
                have HM9 := Lib.hid (HM8.out.below hb9 HM8.out.lt)
                have HZ := Lib.hid (show Mem (w9.alloc (.cells (pfC zeroP).toArray Tpf)) w9.heap.size Tpf (pfC zeroP) from Mem.new w9 Tpf _)
                have HBZ := Lib.hid (belowSelf w9 (.cells (pfC zeroP).toArray Tpf))
                clear hb9 HB8 HM8
                go_upto_region 28 with (first
                  | (refine wp_store_gen HBZ.out (Nat.le_refl _) HZ.out (pfC R) Tpf (.tmp 17) (.tmp 115) rfl rfl rfl HRV.out HI.out HLL.out HON.out ?_
                     intro W4 hm4 hb4 hz4 ho4
                     have HB10 := Lib.hid (belowThen HB9.out hb4)
                     have HM10 := Lib.hid (HM9.out.below hb4 HM9.out.lt)
                     have HP10 := Lib.hid hm4
                     clear hm4 hb4 hz4 ho4)
                  | fail)
                clear HZ HBZ HB9 HM9
                have HPY := Lib.hid (HPX.out.on HB10.out)
                have HSP := Lib.hid (fun p : Bw _ => HSC.out p.W (belowThen HB10.out p.h))
                have HUP := Lib.hid (fun p : Bw _ => HUN.out p.W (belowThen HB10.out p.h))
                have HMP := Lib.hid (fun p : Bw _ => HMY.out p.W (belowThen HB10.out p.h))
                have HRP := Lib.hid (fun p : Bw _ => HRM.out p.W (belowThen HB10.out p.h))
                have HC1 := Lib.hid (fun p : Bw _ => show p.W.cell? ⟨w7.heap.size, 1, none⟩ = some (iv s) from (HM10.out.below p.h HM10.out.lt).cell 1)
                have HC3 := Lib.hid (fun p : Bw _ => show p.W.cell? ⟨w7.heap.size, 3, none⟩ = some (iv un) from (HM10.out.below p.h HM10.out.lt).cell 3)
                have HC4 := Lib.hid (fun p : Bw _ => show p.W.cell? ⟨w7.heap.size, 4, none⟩ = some (.bool true) from (HM10.out.below p.h HM10.out.lt).cell 4)
                have HC7 := Lib.hid (fun p : Bw _ => show p.W.cell? ⟨w7.heap.size, 7, none⟩ = some (tx q3) from (HM10.out.below p.h HM10.out.lt).cell 7)
                have HC33 := Lib.hid (fun p : Bw _ => show p.W.cell? ⟨w9.heap.size, 33, none⟩ = some (tx q3) from HT3.out ▸ (pf_cells (HP10.out.below p.h HP10.out.lt) HR32.out).2.2)
                have hc33 := HC33.out
                have hc1 := HC1.out
                have hc3 := HC3.out
                have hc4 := HC4.out
                have hc7 := HC7.out
                refine wp_region_bw (by kernel_rfl) (by kernel_rfl) ?_
                iterate 7 (quiet_step ((first
                      | (go_at_call 21; rename_i p; exact Bw.call (HSP.out p))
                      | (go_at_call 22; rename_i p; exact Bw.call (HUP.out p))
                      | (go_at_call 23; rename_i p; exact Bw.call (HMP.out p))
                      | (go_at_call 24; rename_i p; exact Bw.call (HRP.out p)))))
                iterate 35 (go_big_quiet_step ((first
                      | (go_at_call 21; rename_i p; exact Bw.call (HSP.out p))
                      | (go_at_call 22; rename_i p; exact Bw.call (HUP.out p))
                      | (go_at_call 23; rename_i p; exact Bw.call (HMP.out p))
                      | (go_at_call 24; rename_i p; exact Bw.call (HRP.out p)))))
                refine wpQuiet_nil ?_
                rintro _ ⟨p, rfl⟩
                have HPZ := Lib.hid (HPY.out.on p.h)
                clear hc1 hc3 hc4 hc7 HC1 HC3 HC4 HC7 HSP HUP HMP HRP hc33 HC33
                go_wp2_with fail
                go_roundw
                case rel => exact ⟨i + 1, now, by omega, by omega, rfl, by go_num, Lib.hid ⟨Me, Be, le, HVX.out, HPZ.out⟩⟩
                case measure => simp [intOf]; omega
      · as_aux_lemma =>
          have b1 : (kd == 1) = false := by simpa using hk1
          have b2 : (kd == 2) = false := by simpa using hk2
          have b3 : (kd == 3) = false := by simpa using hk3
          have HPE := Lib.hid HP1.out
          have HVE := Lib.hid (HVG.out _ _ _ (HV.out.time HD.out))
          clear HP1
          have HX := Lib.hid (show ∃ Me Be le, PI Me Be le now (i + 1) ∧ Pst W k mb bb Me Be u6 le wa from ⟨_, _, _, HVE.out, HPE.out⟩)
          obtain ⟨Me, Be, le, hVE, hPE⟩ := HX.out
          have HVX := Lib.hid hVE
          have HPX := Lib.hid hPE
          clear hVE hPE HX HVE HPE
          obtain ⟨s, wt, un, b, m, ⟨q1, q2, q3⟩, R, hAT, hBN, hSC, hUN, hMY, hRM, hR32, htx⟩ := tail_facts HPX.out (by have := HVX.out.l; omega) HNI.out now
          simp only at hAT htx
          obtain ⟨rV, hrV⟩ : ∃ rV, rV = (.agg (pfC R).toArray : Value) := ⟨_, rfl⟩
          simp only [← hrV] at hBN
          have HRV := Lib.hid hrV
          have HAT := Lib.hid hAT
          have HBN := Lib.hid hBN
          have HSC := Lib.hid hSC
          have HUN := Lib.hid hUN
          have HMY := Lib.hid hMY
          have HRM := Lib.hid hRM
          have HR32 := Lib.hid hR32
          have HTX := Lib.hid htx
          have HI := Lib.hid (sz_pf R hR32)
          have HON := Lib.hid (one_pfC R)
          have HLL := Lib.hid (show (pfC zeroP).length = (pfC R).length from (len_pfC (p := zeroP) rfl).trans (len_pfC hR32).symm)
          clear hrV hAT hBN hSC hUN hMY hRM hR32 htx
          cases b with
          | false =>
            as_aux_lemma =>
              go_wp2_with fail
              refine (HAT.out _ (Below.refl _ _)).mono ?_
              rintro e w7 ⟨rfl, hb7⟩
              have HB8 := Lib.hid (belowThen hb7 (belowSelf w7 (.cells #[iv n, iv s, iv wt, iv un, .bool false, iv q1, tx q2, tx q3] Tmi)))
              have HM8 := Lib.hid (Mem.new w7 Tmi [iv n, iv s, iv wt, iv un, .bool false, iv q1, tx q2, tx q3])
              clear hb7
              go_wp2_with fail
              refine (HBN.out _ HB8.out).mono ?_
              rintro e w9 ⟨rfl, hb9⟩
              have HB9 := Lib.hid (belowThen HB8.out hb9)
              have HM9 := Lib.hid (HM8.out.below hb9 HM8.out.lt)
              have HZ := Lib.hid (show Mem (w9.alloc (.cells (pfC zeroP).toArray Tpf)) w9.heap.size Tpf (pfC zeroP) from Mem.new w9 Tpf _)
              have HBZ := Lib.hid (belowSelf w9 (.cells (pfC zeroP).toArray Tpf))
              clear hb9 HB8 HM8
              go_upto_region 28 with (first
                | (refine wp_store_gen HBZ.out (Nat.le_refl _) HZ.out (pfC R) Tpf (.tmp 17) (.tmp 115) rfl rfl rfl HRV.out HI.out HLL.out HON.out ?_
                   intro W4 hm4 hb4 hz4 ho4
                   have HB10 := Lib.hid (belowThen HB9.out hb4)
                   have HM10 := Lib.hid (HM9.out.below hb4 HM9.out.lt)
                   have HP10 := Lib.hid hm4
                   clear hm4 hb4 hz4 ho4)
                | fail)
              clear HZ HBZ HB9 HM9
              have HPY := Lib.hid (HPX.out.on HB10.out)
              have HSP := Lib.hid (fun p : Bw _ => HSC.out p.W (belowThen HB10.out p.h))
              have HUP := Lib.hid (fun p : Bw _ => HUN.out p.W (belowThen HB10.out p.h))
              have HMP := Lib.hid (fun p : Bw _ => HMY.out p.W (belowThen HB10.out p.h))
              have HRP := Lib.hid (fun p : Bw _ => HRM.out p.W (belowThen HB10.out p.h))
              have HC1 := Lib.hid (fun p : Bw _ => show p.W.cell? ⟨w7.heap.size, 1, none⟩ = some (iv s) from (HM10.out.below p.h HM10.out.lt).cell 1)
              have HC3 := Lib.hid (fun p : Bw _ => show p.W.cell? ⟨w7.heap.size, 3, none⟩ = some (iv un) from (HM10.out.below p.h HM10.out.lt).cell 3)
              have HC4 := Lib.hid (fun p : Bw _ => show p.W.cell? ⟨w7.heap.size, 4, none⟩ = some (.bool false) from (HM10.out.below p.h HM10.out.lt).cell 4)
              have HC7 := Lib.hid (fun p : Bw _ => show p.W.cell? ⟨w7.heap.size, 7, none⟩ = some (tx q3) from (HM10.out.below p.h HM10.out.lt).cell 7)
              have hc1 := HC1.out
              have hc3 := HC3.out
              have hc4 := HC4.out
              have hc7 := HC7.out
              refine wp_region_bw (by kernel_rfl) (by kernel_rfl) ?_
              iterate 7 (quiet_step ((first
                    | (go_at_call 21; rename_i p; exact Bw.call (HSP.out p))
                    | (go_at_call 22; rename_i p; exact Bw.call (HUP.out p))
                    | (go_at_call 23; rename_i p; exact Bw.call (HMP.out p))
                    | (go_at_call 24; rename_i p; exact Bw.call (HRP.out p)))))
              iterate 35 (go_big_quiet_step ((first
                    | (go_at_call 21; rename_i p; exact Bw.call (HSP.out p))
                    | (go_at_call 22; rename_i p; exact Bw.call (HUP.out p))
                    | (go_at_call 23; rename_i p; exact Bw.call (HMP.out p))
                    | (go_at_call 24; rename_i p; exact Bw.call (HRP.out p)))))
              refine wpQuiet_nil ?_
              rintro _ ⟨p, rfl⟩
              have HPZ := Lib.hid (HPY.out.on p.h)
              clear hc1 hc3 hc4 hc7 HC1 HC3 HC4 HC7 HSP HUP HMP HRP
              go_wp2_with fail
              go_roundw
              case rel => exact ⟨i + 1, now, by omega, by omega, rfl, by go_num, Lib.hid ⟨Me, Be, le, HVX.out, HPZ.out⟩⟩
              case measure => simp [intOf]; omega
          | true =>
            have HT3 := Lib.hid (show R.2.2 = q3 from HTX.out rfl)
            as_aux_lemma =>
              go_wp2_with fail
              refine (HAT.out _ (Below.refl _ _)).mono ?_
              rintro e w7 ⟨rfl, hb7⟩
              have HB8 := Lib.hid (belowThen hb7 (belowSelf w7 (.cells #[iv n, iv s, iv wt, iv un, .bool true, iv q1, tx q2, tx q3] Tmi)))
              have HM8 := Lib.hid (Mem.new w7 Tmi [iv n, iv s, iv wt, iv un, .bool true, iv q1, tx q2, tx q3])
              clear hb7
              go_wp2_with fail
              refine (HBN.out _ HB8.out).mono ?_
              rintro e w9 ⟨rfl, hb9⟩
              have HB9 := Lib.hid (belowThen HB8.out hb9)
              have HM9 := Lib.hid (HM8.out.below hb9 HM8.out.lt)
              have HZ := Lib.hid (show Mem (w9.alloc (.cells (pfC zeroP).toArray Tpf)) w9.heap.size Tpf (pfC zeroP) from Mem.new w9 Tpf _)
              have HBZ := Lib.hid (belowSelf w9 (.cells (pfC zeroP).toArray Tpf))
              clear hb9 HB8 HM8
              go_upto_region 28 with (first
                | (refine wp_store_gen HBZ.out (Nat.le_refl _) HZ.out (pfC R) Tpf (.tmp 17) (.tmp 115) rfl rfl rfl HRV.out HI.out HLL.out HON.out ?_
                   intro W4 hm4 hb4 hz4 ho4
                   have HB10 := Lib.hid (belowThen HB9.out hb4)
                   have HM10 := Lib.hid (HM9.out.below hb4 HM9.out.lt)
                   have HP10 := Lib.hid hm4
                   clear hm4 hb4 hz4 ho4)
                | fail)
              clear HZ HBZ HB9 HM9
              have HPY := Lib.hid (HPX.out.on HB10.out)
              have HSP := Lib.hid (fun p : Bw _ => HSC.out p.W (belowThen HB10.out p.h))
              have HUP := Lib.hid (fun p : Bw _ => HUN.out p.W (belowThen HB10.out p.h))
              have HMP := Lib.hid (fun p : Bw _ => HMY.out p.W (belowThen HB10.out p.h))
              have HRP := Lib.hid (fun p : Bw _ => HRM.out p.W (belowThen HB10.out p.h))
              have HC1 := Lib.hid (fun p : Bw _ => show p.W.cell? ⟨w7.heap.size, 1, none⟩ = some (iv s) from (HM10.out.below p.h HM10.out.lt).cell 1)
              have HC3 := Lib.hid (fun p : Bw _ => show p.W.cell? ⟨w7.heap.size, 3, none⟩ = some (iv un) from (HM10.out.below p.h HM10.out.lt).cell 3)
              have HC4 := Lib.hid (fun p : Bw _ => show p.W.cell? ⟨w7.heap.size, 4, none⟩ = some (.bool true) from (HM10.out.below p.h HM10.out.lt).cell 4)
              have HC7 := Lib.hid (fun p : Bw _ => show p.W.cell? ⟨w7.heap.size, 7, none⟩ = some (tx q3) from (HM10.out.below p.h HM10.out.lt).cell 7)
              have HC33 := Lib.hid (fun p : Bw _ => show p.W.cell? ⟨w9.heap.size, 33, none⟩ = some (tx q3) from HT3.out ▸ (pf_cells (HP10.out.below p.h HP10.out.lt) HR32.out).2.2)
              have hc33 := HC33.out
              have hc1 := HC1.out
              have hc3 := HC3.out
              have hc4 := HC4.out
              have hc7 := HC7.out
              refine wp_region_bw (by kernel_rfl) (by kernel_rfl) ?_
              iterate 7 (quiet_step ((first
                    | (go_at_call 21; rename_i p; exact Bw.call (HSP.out p))
                    | (go_at_call 22; rename_i p; exact Bw.call (HUP.out p))
                    | (go_at_call 23; rename_i p; exact Bw.call (HMP.out p))
                    | (go_at_call 24; rename_i p; exact Bw.call (HRP.out p)))))
              iterate 35 (go_big_quiet_step ((first
                    | (go_at_call 21; rename_i p; exact Bw.call (HSP.out p))
                    | (go_at_call 22; rename_i p; exact Bw.call (HUP.out p))
                    | (go_at_call 23; rename_i p; exact Bw.call (HMP.out p))
                    | (go_at_call 24; rename_i p; exact Bw.call (HRP.out p)))))
              refine wpQuiet_nil ?_
              rintro _ ⟨p, rfl⟩
              have HPZ := Lib.hid (HPY.out.on p.h)
              clear hc1 hc3 hc4 hc7 HC1 HC3 HC4 HC7 HSP HUP HMP HRP hc33 HC33
              go_wp2_with fail
              go_roundw
              case rel => exact ⟨i + 1, now, by omega, by omega, rfl, by go_num, Lib.hid ⟨Me, Be, le, HVX.out, HPZ.out⟩⟩
              case measure => simp [intOf]; omega

    · have hn : (decide ((i : Int) < (N : Int)) = false ∧ ¬ (i : Int) < (N : Int)) ∨ (decide ((i : Int) < (N : Int)) = true ∧ (i : Int) < (N : Int) ∧ decide ((i : Int) < 60) = false ∧ ¬ (i : Int) < 60) := by
        by_cases h : i < N
        · right; exact ⟨by simp; omega, by omega, by simp; omega, by omega⟩
        · left; exact ⟨by simp; omega, by omega⟩
      rcases hn with ⟨hq1, hq2⟩ | ⟨hq1, hq2, hq3, hq4⟩
      · as_aux_lemma =>
          have HF0 := Lib.hid (show Owns (wr.alloc (.cells #[] Tin)) wr.heap.size Tin (.slice (some ⟨wr.heap.size, 0, none⟩) 0 0) ((fewL ks 0).map iv) from Owns.of_mem (Mem.newAt wr Tin [] rfl) (Nat.le_refl _) 0 0 (Nat.le_refl _) rfl (by simp [maxLen]) rfl)
          have HFB0 := Lib.hid (belowSelf wr (.cells #[] Tin))
          obtain ⟨ti, hti, hz, hs1, hby⟩ := int_inf
          have HTI := Lib.hid hti
          have HZ := Lib.hid hz
          have HS1 := Lib.hid hs1
          have HBY : ti.bytes ≤ 64 := by omega
          obtain ⟨wq, hwq⟩ : ∃ wq, wq = wr := ⟨_, rfl⟩
          clear hti hz hs1 hby
          go_wp2_with fail
          go_loopw [19, 20] (fun f s w3 => ∃ j : Nat, j ≤ N2 ∧ j ≤ 12 ∧ s = .int .i64 j ∧ Hid (Owns w3 wq.heap.size Tin f ((fewL ks j).map iv)) ∧ Hid (Below wq.heap.size wq w3)) (fun _ s _ => 12 - (intOf s).toNat)
          case atStart => exact ⟨0, by omega, by omega, rfl, by rw [hwq]; exact HF0, by rw [hwq]; exact HFB0⟩
          case round =>
            obtain ⟨j, hj, hj2, rfl, HO, HB3⟩ := hrel
            rw [← hwq] at HJ
            clear HF0 HFB0 hwq
            by_cases hjlt : j < N2 ∧ j < 12
            · have hp1 : decide ((j : Int) < (N2 : Int)) = true := by simp; omega
              have hp2 : decide ((j : Int) < 12) = true := by simp; omega
              have hp3 : (j : Int) < (N2 : Int) := by omega
              have hp4 : (j : Int) < 12 := by omega
              have hjl : j < ks.length := by rw [← HN2.out]; exact hjlt.1
              obtain ⟨za', zc', e, hcz⟩ := HZS.out.below (belowThen HJ.out.b.bel HB3.out)
              injection e with e1 e2 e3
              subst e1
              obtain ⟨zb, zo, rfl, hcell⟩ := hcz j hjl
              have HST := Lib.hid (fewL_step hjl)
              have m16 := i64_mask (ks.getD j 0) 4 (by omega)
              simp only [Nat.reducePow, Nat.reduceSub, Int.cast_ofNat_Int] at m16
              obtain ⟨z, hz⟩ : ∃ z, z = ks.getD j 0 := ⟨_, rfl⟩
              rw [← hz] at HST m16 hcell
              obtain ⟨y, hy⟩ : ∃ y, y = z % 16 := ⟨_, rfl⟩
              rw [← hy] at HST m16
              have HLEN := Lib.hid (show ((fewL ks j).map iv).length + 1 ≤ 1099511627776 by rw [List.length_map]; have := fewL_len ks j; omega)
              clear hcz e2 e3 hjl hz hy
              go_wp2_with (first
                | (at_builtin
                   refine wp_append_gr (HO.out.alloc _) [iv y] (.tmp 170) (.tmp 176) Tis ti (iv 0) rfl rfl Tryd.underlying23 HTI.out HZ.out HS1.out HBY rfl rfl rfl (fun j u hu => cell_news_one _ _ _ j u hu) (by intro u hu; simp at hu; subst hu; rfl) HLEN.out (by have := HB3.out.size; simp; omega) ?_
                   intro v5 w5 ho5 hg5 hat5
                   have HO5 := Lib.hid (show Owns w5 wq.heap.size Tin v5 ((fewL ks (j + 1)).map iv) from by rw [HST.out, List.map_append]; exact ho5)
                   have HB5 := Lib.hid (show Below wq.heap.size wq w5 from below_own (belowThen HB3.out (belowSelf _ _)) hg5 (fun g hg => (HO.out.lt g hg).2))
                   clear ho5 hg5 hat5)
                | fail)
              go_roundw
              case rel => exact ⟨j + 1, by omega, by omega, by go_num, HO5, HB5⟩
              case measure => simp [intOf]; omega
            · have hpn : (decide ((j : Int) < (N2 : Int)) = false ∧ ¬ (j : Int) < (N2 : Int)) ∨ (decide ((j : Int) < (N2 : Int)) = true ∧ (j : Int) < (N2 : Int) ∧ decide ((j : Int) < 12) = false ∧ ¬ (j : Int) < 12) := by
                by_cases h : j < N2
                · right; exact ⟨by simp; omega, by omega, by simp; omega, by omega⟩
                · left; exact ⟨by simp; omega, by omega⟩
              rcases hpn with ⟨hp1, hp2⟩ | ⟨hp1, hp2, hp3, hp4⟩
              · have HFL := Lib.hid (fewL_len ks j)
                obtain ⟨fl, hfl⟩ : ∃ fl, fl = fewL ks j := ⟨_, rfl⟩
                have HFI := Lib.hid (show ∀ x ∈ fl, In64 x from hfl ▸ fewL_in)
                rw [← hfl] at HO HFL
                have HZF := Lib.hid (owns_zsp HO.out)
                have HPF := Lib.hid (HJ.out.on HB3.out)
                have HSO := Lib.hid (rsort_any HPF.out.b.v HZF.out HFI.out (by have := HFL.out; omega) nw)
                clear hfl HO
                go_wp2_with fail
                refine HSO.out.mono ?_
                rintro e w5 ⟨u1, ys, rfl, hp, hs, ho, hb5⟩
                have HSE := Lib.hid (sortL_eq hp hs)
                have HO5 := Lib.hid ho
                have HP5 := Lib.hid (HPF.out.on hb5)
                have HZ5 := Lib.hid (HZF.out.below hb5)
                clear hp hs ho hb5 HSO HZF HPF
                go_wp2_with fail
                refine (rsortL_any HP5.out.r (by have := HV.out.l; omega) HP5.out.s HZ5.out (by have := HFL.out; omega) nw).mono ?_
                rintro e w6 ⟨u2, rfl, ho6, hb6⟩
                obtain ⟨S, hS⟩ : ∃ S, S = sortL M B nw fl := ⟨_, rfl⟩
                have HG := Lib.hid (show Owns w6 _ Tin u1 (S.map iv) from by rw [hS, ← HSE.out]; exact HO5.out.below hb6)
                have HW := Lib.hid (show Owns w6 _ Tin u2 (S.map iv) from by rw [hS]; exact ho6)
                have HP6 := Lib.hid (HP5.out.on hb6)
                have HSL := Lib.hid (show S.length ≤ 12 from by rw [hS]; exact Nat.le_trans (sortL_len M B nw fl) (Nat.le_trans HFL.out (by omega)))
                clear hS ho6 hb6 HO5 HP5 HZ5 HSE
                obtain ⟨a1, c1, e1, -⟩ := HG.out.form
                obtain ⟨a2, c2, e2, -⟩ := HW.out.form
                rw [List.length_map] at e1 e2
                subst e1 e2
                obtain ⟨K, hK⟩ : ∃ K, K = S.length := ⟨_, rfl⟩
                have HK := Lib.hid hK
                rw [← hK] at HG HW HSL ⊢
                have hk12 : K ≤ 12 := HSL.out
                clear hK
                go_wp2_with fail
                go_loopw [193] (fun s w7 => ∃ q : Nat, q ≤ K ∧ s = .int .i64 q ∧ Hid (Below w6.heap.size w6 w7)) (fun s _ => K - (intOf s).toNat)
                case atStart => exact ⟨0, by omega, rfl, Lib.hid (Below.refl _ _)⟩
                case round =>
                  obtain ⟨q, hq, rfl, HBQ⟩ := hrel
                  by_cases hqk : q < K
                  · have hr1 : decide ((q : Int) < (K : Int)) = true := by simp; omega
                    have hr2 : (q : Int) < (K : Int) := by omega
                    have hql : q < S.length := by rw [← HK.out]; exact hqk
                    obtain ⟨g1, rfl, -⟩ := cellAt HG.out hql
                    obtain ⟨g2, rfl, -⟩ := cellAt HW.out hql
                    obtain ⟨z, hz⟩ : ∃ z, z = S[q] := ⟨_, rfl⟩
                    have HC1 := Lib.hid (fun p : Bw wr => show p.W.cell? ⟨g1, q, none⟩ = some (iv z) from by
                      obtain ⟨g', e, hc⟩ := cellAt ((HG.out.below HBQ.out).below p.h) hql
                      injection e with e
                      injection e with e
                      rw [e, hz]
                      exact hc)
                    have HC2 := Lib.hid (fun p : Bw wr => show p.W.cell? ⟨g2, q, none⟩ = some (iv z) from by
                      obtain ⟨g', e, hc⟩ := cellAt ((HW.out.below HBQ.out).below p.h) hql
                      injection e with e
                      injection e with e
                      rw [e, hz]
                      exact hc)
                    clear hz hql
                    go_wp2_with fail
                    have hc1 := HC1.out
                    have hc2 := HC2.out
                    refine wp_region_bw (by kernel_rfl) (by kernel_rfl) ?_
                    repeat (first | quiet_step (fail) | go_big_quiet_step (fail))
                    refine wpQuiet_nil ?_
                    rintro _ ⟨p, rfl⟩
                    have HBR := Lib.hid (belowThen HBQ.out p.h)
                    clear hc1 hc2 HC1 HC2
                    go_wp2_with fail
                    go_roundw
                    case rel => exact ⟨q + 1, by omega, by go_num, HBR⟩
                    case measure => simp [intOf]; omega
                  · have hr1 : decide ((q : Int) < (K : Int)) = false := by simp; omega
                    have hr2 : ¬ (q : Int) < (K : Int) := by omega
                    have HBE := Lib.hid (HP6.out.on HBQ.out).b.bel
                    go_wp2_with fail
                    go_ret
                    exact ⟨rfl, HBE.out⟩
              · have HFL := Lib.hid (fewL_len ks j)
                obtain ⟨fl, hfl⟩ : ∃ fl, fl = fewL ks j := ⟨_, rfl⟩
                have HFI := Lib.hid (show ∀ x ∈ fl, In64 x from hfl ▸ fewL_in)
                rw [← hfl] at HO HFL
                have HZF := Lib.hid (owns_zsp HO.out)
                have HPF := Lib.hid (HJ.out.on HB3.out)
                have HSO := Lib.hid (rsort_any HPF.out.b.v HZF.out HFI.out (by have := HFL.out; omega) nw)
                clear hfl HO
                go_wp2_with fail
                refine HSO.out.mono ?_
                rintro e w5 ⟨u1, ys, rfl, hp, hs, ho, hb5⟩
                have HSE := Lib.hid (sortL_eq hp hs)
                have HO5 := Lib.hid ho
                have HP5 := Lib.hid (HPF.out.on hb5)
                have HZ5 := Lib.hid (HZF.out.below hb5)
                clear hp hs ho hb5 HSO HZF HPF
                go_wp2_with fail
                refine (rsortL_any HP5.out.r (by have := HV.out.l; omega) HP5.out.s HZ5.out (by have := HFL.out; omega) nw).mono ?_
                rintro e w6 ⟨u2, rfl, ho6, hb6⟩
                obtain ⟨S, hS⟩ : ∃ S, S = sortL M B nw fl := ⟨_, rfl⟩
                have HG := Lib.hid (show Owns w6 _ Tin u1 (S.map iv) from by rw [hS, ← HSE.out]; exact HO5.out.below hb6)
                have HW := Lib.hid (show Owns w6 _ Tin u2 (S.map iv) from by rw [hS]; exact ho6)
                have HP6 := Lib.hid (HP5.out.on hb6)
                have HSL := Lib.hid (show S.length ≤ 12 from by rw [hS]; exact Nat.le_trans (sortL_len M B nw fl) (Nat.le_trans HFL.out (by omega)))
                clear hS ho6 hb6 HO5 HP5 HZ5 HSE
                obtain ⟨a1, c1, e1, -⟩ := HG.out.form
                obtain ⟨a2, c2, e2, -⟩ := HW.out.form
                rw [List.length_map] at e1 e2
                subst e1 e2
                obtain ⟨K, hK⟩ : ∃ K, K = S.length := ⟨_, rfl⟩
                have HK := Lib.hid hK
                rw [← hK] at HG HW HSL ⊢
                have hk12 : K ≤ 12 := HSL.out
                clear hK
                go_wp2_with fail
                go_loopw [193] (fun s w7 => ∃ q : Nat, q ≤ K ∧ s = .int .i64 q ∧ Hid (Below w6.heap.size w6 w7)) (fun s _ => K - (intOf s).toNat)
                case atStart => exact ⟨0, by omega, rfl, Lib.hid (Below.refl _ _)⟩
                case round =>
                  obtain ⟨q, hq, rfl, HBQ⟩ := hrel
                  by_cases hqk : q < K
                  · have hr1 : decide ((q : Int) < (K : Int)) = true := by simp; omega
                    have hr2 : (q : Int) < (K : Int) := by omega
                    have hql : q < S.length := by rw [← HK.out]; exact hqk
                    obtain ⟨g1, rfl, -⟩ := cellAt HG.out hql
                    obtain ⟨g2, rfl, -⟩ := cellAt HW.out hql
                    obtain ⟨z, hz⟩ : ∃ z, z = S[q] := ⟨_, rfl⟩
                    have HC1 := Lib.hid (fun p : Bw wr => show p.W.cell? ⟨g1, q, none⟩ = some (iv z) from by
                      obtain ⟨g', e, hc⟩ := cellAt ((HG.out.below HBQ.out).below p.h) hql
                      injection e with e
                      injection e with e
                      rw [e, hz]
                      exact hc)
                    have HC2 := Lib.hid (fun p : Bw wr => show p.W.cell? ⟨g2, q, none⟩ = some (iv z) from by
                      obtain ⟨g', e, hc⟩ := cellAt ((HW.out.below HBQ.out).below p.h) hql
                      injection e with e
                      injection e with e
                      rw [e, hz]
                      exact hc)
                    clear hz hql
                    go_wp2_with fail
                    have hc1 := HC1.out
                    have hc2 := HC2.out
                    refine wp_region_bw (by kernel_rfl) (by kernel_rfl) ?_
                    repeat (first | quiet_step (fail) | go_big_quiet_step (fail))
                    refine wpQuiet_nil ?_
                    rintro _ ⟨p, rfl⟩
                    have HBR := Lib.hid (belowThen HBQ.out p.h)
                    clear hc1 hc2 HC1 HC2
                    go_wp2_with fail
                    go_roundw
                    case rel => exact ⟨q + 1, by omega, by go_num, HBR⟩
                    case measure => simp [intOf]; omega
                  · have hr1 : decide ((q : Int) < (K : Int)) = false := by simp; omega
                    have hr2 : ¬ (q : Int) < (K : Int) := by omega
                    have HBE := Lib.hid (HP6.out.on HBQ.out).b.bel
                    go_wp2_with fail
                    go_ret
                    exact ⟨rfl, HBE.out⟩
      · as_aux_lemma =>
          have HF0 := Lib.hid (show Owns (wr.alloc (.cells #[] Tin)) wr.heap.size Tin (.slice (some ⟨wr.heap.size, 0, none⟩) 0 0) ((fewL ks 0).map iv) from Owns.of_mem (Mem.newAt wr Tin [] rfl) (Nat.le_refl _) 0 0 (Nat.le_refl _) rfl (by simp [maxLen]) rfl)
          have HFB0 := Lib.hid (belowSelf wr (.cells #[] Tin))
          obtain ⟨ti, hti, hz, hs1, hby⟩ := int_inf
          have HTI := Lib.hid hti
          have HZ := Lib.hid hz
          have HS1 := Lib.hid hs1
          have HBY : ti.bytes ≤ 64 := by omega
          obtain ⟨wq, hwq⟩ : ∃ wq, wq = wr := ⟨_, rfl⟩
          clear hti hz hs1 hby
          go_wp2_with fail
          go_loopw [19, 20] (fun f s w3 => ∃ j : Nat, j ≤ N2 ∧ j ≤ 12 ∧ s = .int .i64 j ∧ Hid (Owns w3 wq.heap.size Tin f ((fewL ks j).map iv)) ∧ Hid (Below wq.heap.size wq w3)) (fun _ s _ => 12 - (intOf s).toNat)
          case atStart => exact ⟨0, by omega, by omega, rfl, by rw [hwq]; exact HF0, by rw [hwq]; exact HFB0⟩
          case round =>
            obtain ⟨j, hj, hj2, rfl, HO, HB3⟩ := hrel
            rw [← hwq] at HJ
            clear HF0 HFB0 hwq
            by_cases hjlt : j < N2 ∧ j < 12
            · have hp1 : decide ((j : Int) < (N2 : Int)) = true := by simp; omega
              have hp2 : decide ((j : Int) < 12) = true := by simp; omega
              have hp3 : (j : Int) < (N2 : Int) := by omega
              have hp4 : (j : Int) < 12 := by omega
              have hjl : j < ks.length := by rw [← HN2.out]; exact hjlt.1
              obtain ⟨za', zc', e, hcz⟩ := HZS.out.below (belowThen HJ.out.b.bel HB3.out)
              injection e with e1 e2 e3
              subst e1
              obtain ⟨zb, zo, rfl, hcell⟩ := hcz j hjl
              have HST := Lib.hid (fewL_step hjl)
              have m16 := i64_mask (ks.getD j 0) 4 (by omega)
              simp only [Nat.reducePow, Nat.reduceSub, Int.cast_ofNat_Int] at m16
              obtain ⟨z, hz⟩ : ∃ z, z = ks.getD j 0 := ⟨_, rfl⟩
              rw [← hz] at HST m16 hcell
              obtain ⟨y, hy⟩ : ∃ y, y = z % 16 := ⟨_, rfl⟩
              rw [← hy] at HST m16
              have HLEN := Lib.hid (show ((fewL ks j).map iv).length + 1 ≤ 1099511627776 by rw [List.length_map]; have := fewL_len ks j; omega)
              clear hcz e2 e3 hjl hz hy
              go_wp2_with (first
                | (at_builtin
                   refine wp_append_gr (HO.out.alloc _) [iv y] (.tmp 170) (.tmp 176) Tis ti (iv 0) rfl rfl Tryd.underlying23 HTI.out HZ.out HS1.out HBY rfl rfl rfl (fun j u hu => cell_news_one _ _ _ j u hu) (by intro u hu; simp at hu; subst hu; rfl) HLEN.out (by have := HB3.out.size; simp; omega) ?_
                   intro v5 w5 ho5 hg5 hat5
                   have HO5 := Lib.hid (show Owns w5 wq.heap.size Tin v5 ((fewL ks (j + 1)).map iv) from by rw [HST.out, List.map_append]; exact ho5)
                   have HB5 := Lib.hid (show Below wq.heap.size wq w5 from below_own (belowThen HB3.out (belowSelf _ _)) hg5 (fun g hg => (HO.out.lt g hg).2))
                   clear ho5 hg5 hat5)
                | fail)
              go_roundw
              case rel => exact ⟨j + 1, by omega, by omega, by go_num, HO5, HB5⟩
              case measure => simp [intOf]; omega
            · have hpn : (decide ((j : Int) < (N2 : Int)) = false ∧ ¬ (j : Int) < (N2 : Int)) ∨ (decide ((j : Int) < (N2 : Int)) = true ∧ (j : Int) < (N2 : Int) ∧ decide ((j : Int) < 12) = false ∧ ¬ (j : Int) < 12) := by
                by_cases h : j < N2
                · right; exact ⟨by simp; omega, by omega, by simp; omega, by omega⟩
                · left; exact ⟨by simp; omega, by omega⟩
              rcases hpn with ⟨hp1, hp2⟩ | ⟨hp1, hp2, hp3, hp4⟩
              · have HFL := Lib.hid (fewL_len ks j)
                obtain ⟨fl, hfl⟩ : ∃ fl, fl = fewL ks j := ⟨_, rfl⟩
                have HFI := Lib.hid (show ∀ x ∈ fl, In64 x from hfl ▸ fewL_in)
                rw [← hfl] at HO HFL
                have HZF := Lib.hid (owns_zsp HO.out)
                have HPF := Lib.hid (HJ.out.on HB3.out)
                have HSO := Lib.hid (rsort_any HPF.out.b.v HZF.out HFI.out (by have := HFL.out; omega) nw)
                clear hfl HO
                go_wp2_with fail
                refine HSO.out.mono ?_
                rintro e w5 ⟨u1, ys, rfl, hp, hs, ho, hb5⟩
                have HSE := Lib.hid (sortL_eq hp hs)
                have HO5 := Lib.hid ho
                have HP5 := Lib.hid (HPF.out.on hb5)
                have HZ5 := Lib.hid (HZF.out.below hb5)
                clear hp hs ho hb5 HSO HZF HPF
                go_wp2_with fail
                refine (rsortL_any HP5.out.r (by have := HV.out.l; omega) HP5.out.s HZ5.out (by have := HFL.out; omega) nw).mono ?_
                rintro e w6 ⟨u2, rfl, ho6, hb6⟩
                obtain ⟨S, hS⟩ : ∃ S, S = sortL M B nw fl := ⟨_, rfl⟩
                have HG := Lib.hid (show Owns w6 _ Tin u1 (S.map iv) from by rw [hS, ← HSE.out]; exact HO5.out.below hb6)
                have HW := Lib.hid (show Owns w6 _ Tin u2 (S.map iv) from by rw [hS]; exact ho6)
                have HP6 := Lib.hid (HP5.out.on hb6)
                have HSL := Lib.hid (show S.length ≤ 12 from by rw [hS]; exact Nat.le_trans (sortL_len M B nw fl) (Nat.le_trans HFL.out (by omega)))
                clear hS ho6 hb6 HO5 HP5 HZ5 HSE
                obtain ⟨a1, c1, e1, -⟩ := HG.out.form
                obtain ⟨a2, c2, e2, -⟩ := HW.out.form
                rw [List.length_map] at e1 e2
                subst e1 e2
                obtain ⟨K, hK⟩ : ∃ K, K = S.length := ⟨_, rfl⟩
                have HK := Lib.hid hK
                rw [← hK] at HG HW HSL ⊢
                have hk12 : K ≤ 12 := HSL.out
                clear hK
                go_wp2_with fail
                go_loopw [193] (fun s w7 => ∃ q : Nat, q ≤ K ∧ s = .int .i64 q ∧ Hid (Below w6.heap.size w6 w7)) (fun s _ => K - (intOf s).toNat)
                case atStart => exact ⟨0, by omega, rfl, Lib.hid (Below.refl _ _)⟩
                case round =>
                  obtain ⟨q, hq, rfl, HBQ⟩ := hrel
                  by_cases hqk : q < K
                  · have hr1 : decide ((q : Int) < (K : Int)) = true := by simp; omega
                    have hr2 : (q : Int) < (K : Int) := by omega
                    have hql : q < S.length := by rw [← HK.out]; exact hqk
                    obtain ⟨g1, rfl, -⟩ := cellAt HG.out hql
                    obtain ⟨g2, rfl, -⟩ := cellAt HW.out hql
                    obtain ⟨z, hz⟩ : ∃ z, z = S[q] := ⟨_, rfl⟩
                    have HC1 := Lib.hid (fun p : Bw wr => show p.W.cell? ⟨g1, q, none⟩ = some (iv z) from by
                      obtain ⟨g', e, hc⟩ := cellAt ((HG.out.below HBQ.out).below p.h) hql
                      injection e with e
                      injection e with e
                      rw [e, hz]
                      exact hc)
                    have HC2 := Lib.hid (fun p : Bw wr => show p.W.cell? ⟨g2, q, none⟩ = some (iv z) from by
                      obtain ⟨g', e, hc⟩ := cellAt ((HW.out.below HBQ.out).below p.h) hql
                      injection e with e
                      injection e with e
                      rw [e, hz]
                      exact hc)
                    clear hz hql
                    go_wp2_with fail
                    have hc1 := HC1.out
                    have hc2 := HC2.out
                    refine wp_region_bw (by kernel_rfl) (by kernel_rfl) ?_
                    repeat (first | quiet_step (fail) | go_big_quiet_step (fail))
                    refine wpQuiet_nil ?_
                    rintro _ ⟨p, rfl⟩
                    have HBR := Lib.hid (belowThen HBQ.out p.h)
                    clear hc1 hc2 HC1 HC2
                    go_wp2_with fail
                    go_roundw
                    case rel => exact ⟨q + 1, by omega, by go_num, HBR⟩
                    case measure => simp [intOf]; omega
                  · have hr1 : decide ((q : Int) < (K : Int)) = false := by simp; omega
                    have hr2 : ¬ (q : Int) < (K : Int) := by omega
                    have HBE := Lib.hid (HP6.out.on HBQ.out).b.bel
                    go_wp2_with fail
                    go_ret
                    exact ⟨rfl, HBE.out⟩
              · have HFL := Lib.hid (fewL_len ks j)
                obtain ⟨fl, hfl⟩ : ∃ fl, fl = fewL ks j := ⟨_, rfl⟩
                have HFI := Lib.hid (show ∀ x ∈ fl, In64 x from hfl ▸ fewL_in)
                rw [← hfl] at HO HFL
                have HZF := Lib.hid (owns_zsp HO.out)
                have HPF := Lib.hid (HJ.out.on HB3.out)
                have HSO := Lib.hid (rsort_any HPF.out.b.v HZF.out HFI.out (by have := HFL.out; omega) nw)
                clear hfl HO
                go_wp2_with fail
                refine HSO.out.mono ?_
                rintro e w5 ⟨u1, ys, rfl, hp, hs, ho, hb5⟩
                have HSE := Lib.hid (sortL_eq hp hs)
                have HO5 := Lib.hid ho
                have HP5 := Lib.hid (HPF.out.on hb5)
                have HZ5 := Lib.hid (HZF.out.below hb5)
                clear hp hs ho hb5 HSO HZF HPF
                go_wp2_with fail
                refine (rsortL_any HP5.out.r (by have := HV.out.l; omega) HP5.out.s HZ5.out (by have := HFL.out; omega) nw).mono ?_
                rintro e w6 ⟨u2, rfl, ho6, hb6⟩
                obtain ⟨S, hS⟩ : ∃ S, S = sortL M B nw fl := ⟨_, rfl⟩
                have HG := Lib.hid (show Owns w6 _ Tin u1 (S.map iv) from by rw [hS, ← HSE.out]; exact HO5.out.below hb6)
                have HW := Lib.hid (show Owns w6 _ Tin u2 (S.map iv) from by rw [hS]; exact ho6)
                have HP6 := Lib.hid (HP5.out.on hb6)
                have HSL := Lib.hid (show S.length ≤ 12 from by rw [hS]; exact Nat.le_trans (sortL_len M B nw fl) (Nat.le_trans HFL.out (by omega)))
                clear hS ho6 hb6 HO5 HP5 HZ5 HSE
                obtain ⟨a1, c1, e1, -⟩ := HG.out.form
                obtain ⟨a2, c2, e2, -⟩ := HW.out.form
                rw [List.length_map] at e1 e2
                subst e1 e2
                obtain ⟨K, hK⟩ : ∃ K, K = S.length := ⟨_, rfl⟩
                have HK := Lib.hid hK
                rw [← hK] at HG HW HSL ⊢
                have hk12 : K ≤ 12 := HSL.out
                clear hK
                go_wp2_with fail
                go_loopw [193] (fun s w7 => ∃ q : Nat, q ≤ K ∧ s = .int .i64 q ∧ Hid (Below w6.heap.size w6 w7)) (fun s _ => K - (intOf s).toNat)
                case atStart => exact ⟨0, by omega, rfl, Lib.hid (Below.refl _ _)⟩
                case round =>
                  obtain ⟨q, hq, rfl, HBQ⟩ := hrel
                  by_cases hqk : q < K
                  · have hr1 : decide ((q : Int) < (K : Int)) = true := by simp; omega
                    have hr2 : (q : Int) < (K : Int) := by omega
                    have hql : q < S.length := by rw [← HK.out]; exact hqk
                    obtain ⟨g1, rfl, -⟩ := cellAt HG.out hql
                    obtain ⟨g2, rfl, -⟩ := cellAt HW.out hql
                    obtain ⟨z, hz⟩ : ∃ z, z = S[q] := ⟨_, rfl⟩
                    have HC1 := Lib.hid (fun p : Bw wr => show p.W.cell? ⟨g1, q, none⟩ = some (iv z) from by
                      obtain ⟨g', e, hc⟩ := cellAt ((HG.out.below HBQ.out).below p.h) hql
                      injection e with e
                      injection e with e
                      rw [e, hz]
                      exact hc)
                    have HC2 := Lib.hid (fun p : Bw wr => show p.W.cell? ⟨g2, q, none⟩ = some (iv z) from by
                      obtain ⟨g', e, hc⟩ := cellAt ((HW.out.below HBQ.out).below p.h) hql
                      injection e with e
                      injection e with e
                      rw [e, hz]
                      exact hc)
                    clear hz hql
                    go_wp2_with fail
                    have hc1 := HC1.out
                    have hc2 := HC2.out
                    refine wp_region_bw (by kernel_rfl) (by kernel_rfl) ?_
                    repeat (first | quiet_step (fail) | go_big_quiet_step (fail))
                    refine wpQuiet_nil ?_
                    rintro _ ⟨p, rfl⟩
                    have HBR := Lib.hid (belowThen HBQ.out p.h)
                    clear hc1 hc2 HC1 HC2
                    go_wp2_with fail
                    go_roundw
                    case rel => exact ⟨q + 1, by omega, by go_num, HBR⟩
                    case measure => simp [intOf]; omega
                  · have hr1 : decide ((q : Int) < (K : Int)) = false := by simp; omega
                    have hr2 : ¬ (q : Int) < (K : Int) := by omega
                    have HBE := Lib.hid (HP6.out.on HBQ.out).b.bel
                    go_wp2_with fail
                    go_ret
                    exact ⟨rfl, HBE.out⟩
end Go.Proofs.YtblfekecmahagaaDoor
