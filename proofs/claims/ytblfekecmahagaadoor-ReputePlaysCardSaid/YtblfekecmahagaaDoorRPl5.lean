/-
  The reference of layer 23: Sort.
-/
import Derived.Test.YtblfekecmahagaaDoorRPl4
namespace Go.Proofs.YtblfekecmahagaaDoor
open Go.RowKit Go.Maps Crv

theorem cellAt {w : World} {base : Nat} {a : Option Addr} {n cap : Nat} {xs : List Int} (h : Owns w base Tin (.slice a n cap) (xs.map iv)) {j : Nat} (hj : j < xs.length) : ∃ g, a = some ⟨g, 0, none⟩ ∧ w.cell? ⟨g, j, none⟩ = some (iv xs[j]) := by
  obtain ⟨a', cap', e, _, _, h4⟩ := h.form
  injection e with e1 _ _
  obtain ⟨g, hg, _, hc⟩ := h4 j (by simpa using hj)
  rw [e1]
  exact ⟨g, hg, by rw [hc]; simp [hj]⟩
theorem at_sc {w : World} {v : Value} {l : List MI} {M : MKt} {B : BNt} (h : RdM w v l) (hl : l.length ≤ 100000) (hS : SameL l M B) (n : Int) : ∃ (a2 a3 : Int) (a4 : Bool) (a5 : Int) (a6 a7 : List UInt8), ∀ W, Below w.heap.size w W → Calls Tryd.prog 19 #[v, iv n] W fun e w' => e = .returned (.agg #[iv n, iv (scoreK M n), iv a2, iv a3, .bool a4, iv a5, tx a6, tx a7]) ∧ Below W.heap.size W w' := by
  refine ⟨(mkOf M n).2.1, (mkOf M n).2.2, (getK n B).isSome, ((getK n B).getD (0, [], [])).1, ((getK n B).getD (0, [], [])).2.1, ((getK n B).getD (0, [], [])).2.2, fun W hb => ?_⟩
  have := at_any (h.below hb) hl n
  rw [hS n] at this
  exact this
section
variable {w : World} {v u : Value} {l : List MI} {M : MKt} {B : BNt} {zs : List Int}
set_option maxHeartbeats 6000000 in
set_option maxRecDepth 100000 in
theorem rsortL_any (h : RdM w v l) (hl : l.length ≤ 100000) (hS : SameL l M B) (hz : ZsP w u zs) (hzl : zs.length ≤ 1000) (now : Int) : Calls Tryd.prog 26 #[v, iv now, u] w fun e w' => ∃ r, e = .returned r ∧ Owns w' w.heap.size Tin r ((sortL M B now zs).map iv) ∧ Below w.heap.size w w' := by
  obtain ⟨za, zc, rfl, hk0⟩ := hz
  have HZS := Lib.hid (show ZsP w (.slice za zs.length zc) zs from ⟨za, zc, rfl, hk0⟩)
  have HMA := Lib.hid (fun W (hb : Below w.heap.size w W) n => show Calls Tryd.prog 24 #[v, iv n, iv now] W fun e w' => e = .returned (.bool (mayB M B n now)) ∧ Below W.heap.size W w' from by
    rw [hS.may n now]
    exact rmay_any (h.below hb) hl n now)
  have HSC := Lib.hid (fun n => at_sc h hl hS n)
  obtain ⟨N, hN⟩ : ∃ N, N = zs.length := ⟨_, rfl⟩
  have HN := Lib.hid hN
  rw [← hN] at HZS hzl ⊢
  obtain ⟨ti, hti, hz, hs1, hby⟩ := int_inf
  have HTI := Lib.hid hti
  have HZ := Lib.hid hz
  have HS1 := Lib.hid hs1
  have HBY : ti.bytes ≤ 64 := by omega
  have HO0 := Lib.hid (show Owns (w.alloc (.cells #[] Tin)) w.heap.size Tin (.slice (some ⟨w.heap.size, 0, none⟩) 0 0) ((sortL M B now (zs.take 0)).map iv) from Owns.of_mem (Mem.newAt w Tin [] rfl) (Nat.le_refl _) 0 0 (Nat.le_refl _) rfl (by simp [maxLen]) rfl)
  have HB0 := Lib.hid (belowSelf w (.cells #[] Tin))
  clear h hl hS hk0 hN hti hz hs1 hby
  go_enter Tryd.func26, Tryd.ntmps26
  go_wp2_with fail
  go_loopw [7, 17] (fun t s wr => ∃ i : Nat, i ≤ N ∧ s = .int .i64 i ∧ Hid (Owns wr w.heap.size Tin t ((sortL M B now (zs.take i)).map iv)) ∧ Hid (Below w.heap.size w wr)) (fun _ s _ => N - (intOf s).toNat)
  case atStart => exact ⟨0, by omega, rfl, HO0, HB0⟩
  case round =>
    obtain ⟨i, hi, rfl, HO, HB⟩ := hrel
    clear HO0 HB0
    by_cases hlt : i < N
    · have hd : decide ((i : Int) < (N : Int)) = true := by simp; omega
      have hd2 : (i : Int) < (N : Int) := by omega
      have hil : i < zs.length := by rw [← HN.out]; exact hlt
      obtain ⟨za', zc', e, hc⟩ := HZS.out.below HB.out
      injection e with e1 e2 e3
      subst e1
      obtain ⟨zb, zo, rfl, hcell⟩ := hc i hil
      clear hc e2 e3
      have HSTEP := Lib.hid (sortL_step M B now hil)
      obtain ⟨n, hn⟩ : ∃ n, n = zs.getD i 0 := ⟨_, rfl⟩
      rw [show zs[i] = n from by rw [hn, List.getD_eq_getElem?_getD, List.getElem?_eq_getElem hil]; rfl] at HSTEP
      rw [← hn] at hcell
      have HOL := Lib.hid (show (sortL M B now (zs.take i)).length ≤ 1000 from by
        have := sortL_len M B now (zs.take i)
        rw [List.length_take] at this
        omega)
      obtain ⟨OUT, hOUT⟩ : ∃ OUT, OUT = sortL M B now (zs.take i) := ⟨_, rfl⟩
      rw [← hOUT] at HO HSTEP HOL
      obtain ⟨a7, c7, e7, -⟩ := HO.out.form
      rw [List.length_map] at e7
      subst e7
      obtain ⟨K, hK⟩ : ∃ K, K = OUT.length := ⟨_, rfl⟩
      have HK := Lib.hid hK
      rw [← hK] at HO HOL ⊢
      have HMY := Lib.hid (HMA.out wr HB.out n)
      obtain ⟨bm, hbm⟩ : ∃ bm, bm = mayB M B n now := ⟨_, rfl⟩
      have HBM := Lib.hid hbm.symm
      rw [← hbm] at HMY
      clear hn hil hOUT hK hbm
      cases bm with
      | false =>
        have HE := Lib.hid (show sortL M B now (zs.take (i + 1)) = OUT from by rw [HSTEP.out]; unfold sortF; rw [HBM.out]; rfl)
        go_wp2_with fail
        refine HMY.out.mono ?_
        rintro e w2 ⟨rfl, hb2⟩
        have HO2 := Lib.hid (show Owns w2 w.heap.size Tin (.slice a7 K c7) ((sortL M B now (zs.take (i + 1))).map iv) from by rw [HE.out]; exact HO.out.below hb2)
        have HB2 := Lib.hid (belowThen HB.out hb2)
        clear hb2 hcell
        go_wp2_with fail
        go_roundw
        case rel => exact ⟨i + 1, by omega, by go_num, HO2, HB2⟩
        case measure => simp [intOf]; omega
      | true =>
        have HE := Lib.hid (show sortL M B now (zs.take (i + 1)) = insR M n OUT from by rw [HSTEP.out]; unfold sortF; rw [HBM.out]; rfl)
        obtain ⟨n2, n3, n4, n5, n6, n7, HATN0⟩ := HSC.out n
        have HATN := Lib.hid HATN0
        obtain ⟨sn, hsn⟩ : ∃ s, s = scoreK M n := ⟨_, rfl⟩
        have HSN := Lib.hid hsn
        rw [← hsn] at HATN
        have hfn := fun W => fld1 n sn n2 n3 n4 n5 n6 n7 W
        clear HATN0 hsn
        go_wp2_with fail
        refine HMY.out.mono ?_
        rintro e w2 ⟨rfl, hb2⟩
        have HO2 := Lib.hid (HO.out.below hb2)
        have HB2 := Lib.hid (belowThen HB.out hb2)
        have HN0 := Lib.hid (show Owns (w2.alloc (.cells #[] Tin)) w2.heap.size Tin (.slice (some ⟨w2.heap.size, 0, none⟩) 0 0) ((inS M n OUT 0).1.map iv) from Owns.of_mem (Mem.newAt w2 Tin [] rfl) (Nat.le_refl _) 0 0 (Nat.le_refl _) rfl (by simp [maxLen]) rfl)
        have HBX0 := Lib.hid (belowSelf w2 (.cells #[] Tin))
        clear hb2 hcell HO HB HMY
        go_wp2_with fail
        go_loopw [10, 11, 29] (fun nx dn s w3 => ∃ j : Nat, j ≤ K ∧ s = .int .i64 j ∧ dn = .bool (inS M n OUT j).2 ∧ Hid (Owns w3 w2.heap.size Tin nx ((inS M n OUT j).1.map iv)) ∧ Hid (Below w2.heap.size w2 w3)) (fun _ _ s _ => K - (intOf s).toNat)
        case atStart => exact ⟨0, by omega, rfl, rfl, HN0, HBX0⟩
        case round =>
          obtain ⟨j, hj, rfl, rfl, HNX, HBX⟩ := hrel
          clear HN0 HBX0
          have HIL := Lib.hid (inS_len M n OUT j)
          have hk1 : K ≤ 1000 := HOL.out
          by_cases hjlt : j < K
          · have hq1 : decide ((j : Int) < (K : Int)) = true := by simp; omega
            have hq2 : (j : Int) < (K : Int) := by omega
            have hjl : j < OUT.length := by rw [← HK.out]; exact hjlt
            obtain ⟨g7, rfl, hcx⟩ := cellAt (HO2.out.below HBX.out) hjl
            have HST := Lib.hid (inS_step M n hjl)
            obtain ⟨x, hx⟩ : ∃ x, x = OUT[j] := ⟨_, rfl⟩
            rw [← hx] at HST hcx
            obtain ⟨S, hS⟩ : ∃ S, S = inS M n OUT j := ⟨_, rfl⟩
            rw [← hS] at HST HNX HIL ⊢
            obtain ⟨nx, dn⟩ := S
            have HLX := Lib.hid (show nx.length ≤ 1002 from by have q : nx.length ≤ j + 1 := HIL.out.1; have := HOL.out; omega)
            have HLEN := Lib.hid (show (nx.map iv).length + 1 ≤ 1099511627776 by rw [List.length_map]; have := HLX.out; omega)
            have HLEN2 := Lib.hid (show ((nx ++ [n]).map iv).length + 1 ≤ 1099511627776 by rw [List.length_map, List.length_append]; have := HLX.out; simp; omega)
            simp only at HNX ⊢
            clear hx hS hjl HIL
            cases dn with
            | true =>
              have HEE := Lib.hid (show inS M n OUT (j + 1) = (nx ++ [x], true) from HST.out.trans (by unfold stepI; simp))
              go_wp2_with (first
                | (at_builtin
                   refine wp_append_gr (HNX.out.alloc _) [iv x] (.tmp 66) (.tmp 68) Tis ti (iv 0) rfl rfl Tryd.underlying23 HTI.out HZ.out HS1.out HBY rfl rfl rfl (fun j u hu => cell_news_one _ _ _ j u hu) (by intro u hu; simp at hu; subst hu; rfl) HLEN.out (by have := HBX.out.size; simp; omega) ?_
                   intro v5 w5 ho5 hg5 hat5
                   have HNY := Lib.hid (show Owns w5 w2.heap.size Tin v5 ((nx ++ [x]).map iv) from by rw [List.map_append]; exact ho5)
                   have HBY2 := Lib.hid (show Below w2.heap.size w2 w5 from below_own (belowThen HBX.out (belowSelf _ _)) hg5 (fun g hg => (HNX.out.lt g hg).2))
                   clear ho5 hg5 hat5)
                | fail)
              go_roundw
              case rel => exact ⟨j + 1, by omega, by go_num, by rw [HEE.out], by rw [HEE.out]; exact HNY, HBY2⟩
              case measure => simp [intOf]; omega
            | false =>
              obtain ⟨x2, x3, x4, x5, x6, x7, HATX0⟩ := HSC.out x
              have HATX := Lib.hid HATX0
              obtain ⟨sx, hsx⟩ : ∃ s, s = scoreK M x := ⟨_, rfl⟩
              have HSX := Lib.hid hsx
              rw [← hsx] at HATX
              have hfx := fun W => fld1 x sx x2 x3 x4 x5 x6 x7 W
              clear HATX0 hsx
              by_cases hgt : sx < sn
              · have hd3 : decide (sn > sx) = true := by simpa using hgt
                have hd4 : sn > sx := hgt
                have HEE := Lib.hid (show inS M n OUT (j + 1) = (nx ++ [n] ++ [x], true) from HST.out.trans (by unfold stepI; rw [if_pos ⟨rfl, by unfold ltS; rw [← HSN.out, ← HSX.out]; omega⟩]))
                clear hgt
                go_wp2_with fail
                refine (HATN.out _ (belowThen HB2.out HBX.out)).mono ?_
                rintro e w10 ⟨rfl, hbk⟩
                have HBX1 := Lib.hid (belowThen HBX.out hbk)
                have HNX1 := Lib.hid (HNX.out.below hbk)
                clear hbk
                go_wp2_with fail
                refine (HATX.out _ (belowThen HB2.out HBX1.out)).mono ?_
                rintro e w11 ⟨rfl, hbk⟩
                have HBX2 := Lib.hid (belowThen HBX1.out hbk)
                have HNX2 := Lib.hid (HNX1.out.below hbk)
                clear hbk
                go_wp2_with (first
                  | (at_builtin
                     refine wp_append_gr (HNX2.out.alloc _) [iv n] (.tmp 62) (.tmp 64) Tis ti (iv 0) rfl rfl Tryd.underlying23 HTI.out HZ.out HS1.out HBY rfl rfl rfl (fun j u hu => cell_news_one _ _ _ j u hu) (by intro u hu; simp at hu; subst hu; rfl) HLEN.out (by have := HBX2.out.size; simp; omega) ?_
                     intro v5 w5 ho5 hg5 hat5
                     have HNA := Lib.hid (show Owns w5 w2.heap.size Tin v5 ((nx ++ [n]).map iv) from by rw [List.map_append]; exact ho5)
                     have HBA := Lib.hid (show Below w2.heap.size w2 w5 from below_own (belowThen HBX2.out (belowSelf _ _)) hg5 (fun g hg => (HNX2.out.lt g hg).2))
                     clear ho5 hg5 hat5)
                  | (at_builtin
                     refine wp_append_gr (HNA.out.alloc _) [iv x] (.tmp 66) (.tmp 68) Tis ti (iv 0) rfl rfl Tryd.underlying23 HTI.out HZ.out HS1.out HBY rfl rfl rfl (fun j u hu => cell_news_one _ _ _ j u hu) (by intro u hu; simp at hu; subst hu; rfl) HLEN2.out (by have := HBA.out.size; simp; omega) ?_
                     intro v5 w5 ho5 hg5 hat5
                     have HNY := Lib.hid (show Owns w5 w2.heap.size Tin v5 ((nx ++ [n] ++ [x]).map iv) from by rw [List.map_append]; exact ho5)
                     have HBY2 := Lib.hid (show Below w2.heap.size w2 w5 from below_own (belowThen HBA.out (belowSelf _ _)) hg5 (fun g hg => (HNA.out.lt g hg).2))
                     clear ho5 hg5 hat5)
                  | fail)
                go_roundw
                case rel => exact ⟨j + 1, by omega, by go_num, by rw [HEE.out], by rw [HEE.out]; exact HNY, HBY2⟩
                case measure => simp [intOf]; omega
              · have hd3 : decide (sn > sx) = false := by simp; omega
                have hd4 : ¬ sn > sx := hgt
                by_cases heq : sn = sx
                · subst heq
                  by_cases hlx : n < x
                  · have hd5 : decide (n < x) = true := by simpa using hlx
                    have HEE := Lib.hid (show inS M n OUT (j + 1) = (nx ++ [n] ++ [x], true) from HST.out.trans (by unfold stepI; rw [if_pos ⟨rfl, by unfold ltS; rw [← HSN.out, ← HSX.out]; omega⟩]))
                    clear hgt
                    go_wp2_with fail
                    refine (HATN.out _ (belowThen HB2.out HBX.out)).mono ?_
                    rintro e w10 ⟨rfl, hbk⟩
                    have HBX1 := Lib.hid (belowThen HBX.out hbk)
                    have HNX1 := Lib.hid (HNX.out.below hbk)
                    clear hbk
                    go_wp2_with fail
                    refine (HATX.out _ (belowThen HB2.out HBX1.out)).mono ?_
                    rintro e w11 ⟨rfl, hbk⟩
                    have HBX2 := Lib.hid (belowThen HBX1.out hbk)
                    have HNX2 := Lib.hid (HNX1.out.below hbk)
                    clear hbk
                    go_wp2_with fail
                    refine (HATN.out _ (belowThen HB2.out HBX2.out)).mono ?_
                    rintro e w12 ⟨rfl, hbk⟩
                    have HBX3 := Lib.hid (belowThen HBX2.out hbk)
                    have HNX3 := Lib.hid (HNX2.out.below hbk)
                    clear hbk
                    go_wp2_with fail
                    refine (HATX.out _ (belowThen HB2.out HBX3.out)).mono ?_
                    rintro e w13 ⟨rfl, hbk⟩
                    have HBX4 := Lib.hid (belowThen HBX3.out hbk)
                    have HNX4 := Lib.hid (HNX3.out.below hbk)
                    clear hbk
                    go_wp2_with (first
                      | (at_builtin
                         refine wp_append_gr (HNX4.out.alloc _) [iv n] (.tmp 62) (.tmp 64) Tis ti (iv 0) rfl rfl Tryd.underlying23 HTI.out HZ.out HS1.out HBY rfl rfl rfl (fun j u hu => cell_news_one _ _ _ j u hu) (by intro u hu; simp at hu; subst hu; rfl) HLEN.out (by have := HBX4.out.size; simp; omega) ?_
                         intro v5 w5 ho5 hg5 hat5
                         have HNA := Lib.hid (show Owns w5 w2.heap.size Tin v5 ((nx ++ [n]).map iv) from by rw [List.map_append]; exact ho5)
                         have HBA := Lib.hid (show Below w2.heap.size w2 w5 from below_own (belowThen HBX4.out (belowSelf _ _)) hg5 (fun g hg => (HNX4.out.lt g hg).2))
                         clear ho5 hg5 hat5)
                      | (at_builtin
                         refine wp_append_gr (HNA.out.alloc _) [iv x] (.tmp 66) (.tmp 68) Tis ti (iv 0) rfl rfl Tryd.underlying23 HTI.out HZ.out HS1.out HBY rfl rfl rfl (fun j u hu => cell_news_one _ _ _ j u hu) (by intro u hu; simp at hu; subst hu; rfl) HLEN2.out (by have := HBA.out.size; simp; omega) ?_
                         intro v5 w5 ho5 hg5 hat5
                         have HNY := Lib.hid (show Owns w5 w2.heap.size Tin v5 ((nx ++ [n] ++ [x]).map iv) from by rw [List.map_append]; exact ho5)
                         have HBY2 := Lib.hid (show Below w2.heap.size w2 w5 from below_own (belowThen HBA.out (belowSelf _ _)) hg5 (fun g hg => (HNA.out.lt g hg).2))
                         clear ho5 hg5 hat5)
                      | fail)
                    go_roundw
                    case rel => exact ⟨j + 1, by omega, by go_num, by rw [HEE.out], by rw [HEE.out]; exact HNY, HBY2⟩
                    case measure => simp [intOf]; omega
                  · have hd5 : decide (n < x) = false := by simpa using hlx
                    have HEE := Lib.hid (show inS M n OUT (j + 1) = (nx ++ [x], false) from HST.out.trans (by unfold stepI; rw [if_neg (by rintro ⟨_, h⟩; unfold ltS at h; rw [← HSN.out, ← HSX.out] at h; omega)]))
                    clear hgt
                    go_wp2_with fail
                    refine (HATN.out _ (belowThen HB2.out HBX.out)).mono ?_
                    rintro e w10 ⟨rfl, hbk⟩
                    have HBX1 := Lib.hid (belowThen HBX.out hbk)
                    have HNX1 := Lib.hid (HNX.out.below hbk)
                    clear hbk
                    go_wp2_with fail
                    refine (HATX.out _ (belowThen HB2.out HBX1.out)).mono ?_
                    rintro e w11 ⟨rfl, hbk⟩
                    have HBX2 := Lib.hid (belowThen HBX1.out hbk)
                    have HNX2 := Lib.hid (HNX1.out.below hbk)
                    clear hbk
                    go_wp2_with fail
                    refine (HATN.out _ (belowThen HB2.out HBX2.out)).mono ?_
                    rintro e w12 ⟨rfl, hbk⟩
                    have HBX3 := Lib.hid (belowThen HBX2.out hbk)
                    have HNX3 := Lib.hid (HNX2.out.below hbk)
                    clear hbk
                    go_wp2_with fail
                    refine (HATX.out _ (belowThen HB2.out HBX3.out)).mono ?_
                    rintro e w13 ⟨rfl, hbk⟩
                    have HBX4 := Lib.hid (belowThen HBX3.out hbk)
                    have HNX4 := Lib.hid (HNX3.out.below hbk)
                    clear hbk
                    go_wp2_with (first
                      | (at_builtin
                         refine wp_append_gr (HNX4.out.alloc _) [iv x] (.tmp 66) (.tmp 68) Tis ti (iv 0) rfl rfl Tryd.underlying23 HTI.out HZ.out HS1.out HBY rfl rfl rfl (fun j u hu => cell_news_one _ _ _ j u hu) (by intro u hu; simp at hu; subst hu; rfl) HLEN.out (by have := HBX4.out.size; simp; omega) ?_
                         intro v5 w5 ho5 hg5 hat5
                         have HNY := Lib.hid (show Owns w5 w2.heap.size Tin v5 ((nx ++ [x]).map iv) from by rw [List.map_append]; exact ho5)
                         have HBY2 := Lib.hid (show Below w2.heap.size w2 w5 from below_own (belowThen HBX4.out (belowSelf _ _)) hg5 (fun g hg => (HNX4.out.lt g hg).2))
                         clear ho5 hg5 hat5)
                      | fail)
                    go_roundw
                    case rel => exact ⟨j + 1, by omega, by go_num, by rw [HEE.out], by rw [HEE.out]; exact HNY, HBY2⟩
                    case measure => simp [intOf]; omega
                · have he3 : (sn == sx) = false := by simpa using heq
                  have HEE := Lib.hid (show inS M n OUT (j + 1) = (nx ++ [x], false) from HST.out.trans (by unfold stepI; rw [if_neg (by rintro ⟨_, h⟩; unfold ltS at h; rw [← HSN.out, ← HSX.out] at h; omega)]))
                  clear hgt
                  go_wp2_with fail
                  refine (HATN.out _ (belowThen HB2.out HBX.out)).mono ?_
                  rintro e w10 ⟨rfl, hbk⟩
                  have HBX1 := Lib.hid (belowThen HBX.out hbk)
                  have HNX1 := Lib.hid (HNX.out.below hbk)
                  clear hbk
                  go_wp2_with fail
                  refine (HATX.out _ (belowThen HB2.out HBX1.out)).mono ?_
                  rintro e w11 ⟨rfl, hbk⟩
                  have HBX2 := Lib.hid (belowThen HBX1.out hbk)
                  have HNX2 := Lib.hid (HNX1.out.below hbk)
                  clear hbk
                  go_wp2_with fail
                  refine (HATN.out _ (belowThen HB2.out HBX2.out)).mono ?_
                  rintro e w12 ⟨rfl, hbk⟩
                  have HBX3 := Lib.hid (belowThen HBX2.out hbk)
                  have HNX3 := Lib.hid (HNX2.out.below hbk)
                  clear hbk
                  go_wp2_with fail
                  refine (HATX.out _ (belowThen HB2.out HBX3.out)).mono ?_
                  rintro e w13 ⟨rfl, hbk⟩
                  have HBX4 := Lib.hid (belowThen HBX3.out hbk)
                  have HNX4 := Lib.hid (HNX3.out.below hbk)
                  clear hbk
                  go_wp2_with (first
                    | (at_builtin
                       refine wp_append_gr (HNX4.out.alloc _) [iv x] (.tmp 66) (.tmp 68) Tis ti (iv 0) rfl rfl Tryd.underlying23 HTI.out HZ.out HS1.out HBY rfl rfl rfl (fun j u hu => cell_news_one _ _ _ j u hu) (by intro u hu; simp at hu; subst hu; rfl) HLEN.out (by have := HBX4.out.size; simp; omega) ?_
                       intro v5 w5 ho5 hg5 hat5
                       have HNY := Lib.hid (show Owns w5 w2.heap.size Tin v5 ((nx ++ [x]).map iv) from by rw [List.map_append]; exact ho5)
                       have HBY2 := Lib.hid (show Below w2.heap.size w2 w5 from below_own (belowThen HBX4.out (belowSelf _ _)) hg5 (fun g hg => (HNX4.out.lt g hg).2))
                       clear ho5 hg5 hat5)
                    | fail)
                  go_roundw
                  case rel => exact ⟨j + 1, by omega, by go_num, by rw [HEE.out], by rw [HEE.out]; exact HNY, HBY2⟩
                  case measure => simp [intOf]; omega
          · have hq1 : decide ((j : Int) < (K : Int)) = false := by simp; omega
            have hq2 : ¬ (j : Int) < (K : Int) := by omega
            have hje : j = OUT.length := by rw [← HK.out]; omega
            have HEND := Lib.hid (inS_end M n OUT)
            rw [← hje] at HEND
            obtain ⟨S, hS⟩ : ∃ S, S = inS M n OUT j := ⟨_, rfl⟩
            rw [← hS] at HNX HIL HEND ⊢
            obtain ⟨nx, dn⟩ := S
            have HLX := Lib.hid (show nx.length ≤ 1002 from by have q : nx.length ≤ j + 1 := HIL.out.1; have := HOL.out; omega)
            have HLEN := Lib.hid (show (nx.map iv).length + 1 ≤ 1099511627776 by rw [List.length_map]; have := HLX.out; omega)
            simp only at HNX ⊢
            clear hS hje HIL
            cases dn with
            | true =>
              have HO9 := Lib.hid (show Owns wr w.heap.size Tin u10 ((sortL M B now (zs.take (i + 1))).map iv) from by rw [HE.out, ← HEND.out]; exact owns_base HNX.out HB2.out.size)
              have HB9 := Lib.hid (belowThen HB2.out HBX.out)
              go_wp2_with fail
              go_roundw
              case rel => exact ⟨i + 1, by omega, by go_num, HO9, HB9⟩
              case measure => simp [intOf]; omega
            | false =>
              go_wp2_with (first
                | (at_builtin
                   refine wp_append_gr (HNX.out.alloc _) [iv n] (.tmp 73) (.tmp 75) Tis ti (iv 0) rfl rfl Tryd.underlying23 HTI.out HZ.out HS1.out HBY rfl rfl rfl (fun j u hu => cell_news_one _ _ _ j u hu) (by intro u hu; simp at hu; subst hu; rfl) HLEN.out (by have := HBX.out.size; simp; omega) ?_
                   intro v5 w5 ho5 hg5 hat5
                   have HNA := Lib.hid (show Owns w5 w2.heap.size Tin v5 ((nx ++ [n]).map iv) from by rw [List.map_append]; exact ho5)
                   have HBA := Lib.hid (show Below w2.heap.size w2 w5 from below_own (belowThen HBX.out (belowSelf _ _)) hg5 (fun g hg => (HNX.out.lt g hg).2))
                   clear ho5 hg5 hat5)
                | fail)
              have HO9 := Lib.hid (owns_base HNA.out HB2.out.size)
              have HB9 := Lib.hid (belowThen HB2.out HBA.out)
              go_roundw
              case rel => exact ⟨i + 1, by omega, by go_num, Lib.hid (by rw [HE.out, ← HEND.out]; exact HO9.out), HB9⟩
              case measure => simp [intOf]; omega
    · have hd : decide ((i : Int) < (N : Int)) = false := by simp; omega
      have hd2 : ¬ (i : Int) < (N : Int) := by omega
      have HOE := Lib.hid (show Owns wr w.heap.size Tin u7 ((sortL M B now zs).map iv) from by
        have := HO.out
        rwa [List.take_of_length_le (by rw [← HN.out]; omega)] at this)
      go_wp2_with fail
      go_ret
      exact ⟨_, rfl, HOE.out, HB.out⟩
end
end Go.Proofs.YtblfekecmahagaaDoor
