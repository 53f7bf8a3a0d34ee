/-
  SectorSure: the walk.
-/
import Derived.Test.YtlnijldpddcmoaaSec16
namespace Go.Proofs.Ytlnijldpddcmoaa
open Go.RowKit Go.Maps Go.Sort Go.Shelf Crv

theorem Zs.below {w w' : World} {v : Value} {xs : List Int} (h : Zs w v xs) (hb : Below w.heap.size w w') : Zs w' v xs := h.only (S := []) (Only.of_below hb) (by simp)
theorem length_cut2 (ls : List (List UInt8)) : (cutL 64 (cutL 70 (ls.take 6))).length ≤ 6 := by
  rw [length_cutL, length_cutL, List.length_take]
  omega

theorem sure_row {b1 : List UInt8} {k q : Nat} {other : List (List UInt8)} {ch : List Int} {D : DataW Unit} (hb : b1.length = 64 * 12) (hk : k + other.length ≤ 12) (hl : ∀ l ∈ other, l.length ≤ 64) (hdu : Du D (duTo (fun _ => none) b1 (.map []) k other other.length) 12) (hn : ¬ (k ≤ q ∧ q < k + other.length)) :
    rowS (crTo (wrTo b1 (.map []) k other other.length).1 (duTo (fun _ => none) b1 (.map []) k other other.length) (looseL (duTo (fun _ => none) b1 (.map []) k other other.length) 12) ch (looseL (duTo (fun _ => none) b1 (.map []) k other other.length) 12).length) q 1 = rowS b1 q 1 := by
  rw [row_crTo_other (length_wrTo (D := .map []) hb hk hl other.length (Nat.le_refl _)) hdu.lens (fun hm => by
    have h1 := (mem_looseL.1 hm).2
    rw [some_duTo] at h1
    simp at h1
    exact hn h1) _ (Nat.le_refl _), row_wrTo hb hk hl q other.length (Nat.le_refl _), if_neg hn]
set_option maxHeartbeats 4000000 in
set_option maxRecDepth 100000 in
theorem sectorSure_walk (v0 v1 v3 : Value) (ls0 ls1 : List (List UInt8)) (n : Int) (ch : List Int) (w : World) (hv0 : Txs w v0 ls0) (hn0 : ls0.length ≤ 9223372036854775807) (hv1 : Txs w v1 ls1) (hn1 : ls1.length ≤ 9223372036854775807) (hv3 : Zs w v3 ch) (hn3 : ch.length ≤ 9223372036854775807) :
    Calls Try.prog 4 #[v0, v1, .int .i64 n, v3] w fun e w' => e = .returned (.bool true) ∧ Below w.heap.size w w' := by
  have HAW := Lib.hid awake3_any
  have HV0 := Lib.hid hv0
  have HV1 := Lib.hid hv1
  have HV3 := Lib.hid hv3
  have HZ3 := Lib.hid (show ch ≠ [] → ∀ g, v3.ownBlock = some g → g < w.heap.size from fun hne g hg => by
    obtain ⟨ad, cap, rfl, hc⟩ := hv3
    cases ch with
    | nil => exact absurd rfl hne
    | cons c r =>
      obtain ⟨b, off, ha, hcell⟩ := hc 0 (by simp)
      subst ha
      injection hg with hg
      subst hg
      exact World.block_lt_of_cell? w _ hcell)
  obtain ⟨k, hk⟩ : ∃ k : Nat, min (max n 0) 6 = (k : Int) := ⟨(min (max n 0) 6).toNat, by omega⟩
  have hk6 : k ≤ 6 := by omega
  have HK := Lib.hid hk
  obtain ⟨b0, hb0⟩ : ∃ b, b = List.replicate (64 * 12) (0 : UInt8) := ⟨_, rfl⟩
  obtain ⟨tt, htt, htz, hts, htb⟩ := text_info
  have HTT := Lib.hid htt
  have HTZ := Lib.hid htz
  have HTS := Lib.hid hts
  have HTB := Lib.hid (show tt.bytes ≤ 64 by omega)
  have HN0 := Lib.hid hn0
  have HN1 := Lib.hid hn1
  have HL0 := Lib.hid (length_cut2 ls0)
  have HL1 := Lib.hid (length_cut2 ls1)
  have hF0 : (cutL 70 (ls0.take 6)).length ≤ 6 := by rw [length_cutL, List.length_take]; omega
  have hF1 : (cutL 70 (ls1.take 6)).length ≤ 6 := by rw [length_cutL, List.length_take]; omega
  clear hk htt htz hts htb hv0 hv1 hv3 hn0 hn1
  go_enter Try.func4, Try.ntmps4
  go_wp2_with fail
  refine (HAW.out _).mono ?_
  rintro e w1 ⟨rfl, hb1⟩
  have HN := Lib.hid (fun W => new_any 12 (by omega) W)
  simp only [← hb0] at HN
  clear hb0 HAW
  go_wp2_with fail
  refine (HN.out _).mono ?_
  rintro e w2 ⟨fb, cb, mb, db, rfl, hd2, hb2, k1, k2, k3, k4⟩
  have hb1s := hb1.size
  have HG := Lib.hid (three_ge (Nat.le_trans hb1s k1) (Nat.le_trans hb1s k2) (Nat.le_trans hb1s k3))
  have HSW0 := Lib.hid (show SureW w fb cb mb db 12 false 0 b0 0 (.map []) [] w2 from ⟨hd2, by simp, belowThen hb1 hb2⟩)
  have HSW1 := Lib.hid (HSW0.out.below (belowSelf w2 (.cells #[] 9)))
  have HF := Lib.hid (few_any _ v0 ls0 (HV0.out.below HSW1.out.bel) HN0.out)
  obtain ⟨fs, hfs⟩ : ∃ fs, fs = cutL 70 (ls0.take 6) := ⟨_, rfl⟩
  rw [← hfs] at HF HL0 hF0
  clear HN hd2 hb2 hb1 k1 k2 k3 k4 hb1s hfs
  go_wp2_with fail
  refine HF.out.mono ?_
  rintro e w3 ⟨vF, rfl, hoF, hb3⟩
  have HSW := Lib.hid ((HSW1.out.below hb3).cons (owns_base hoF HSW1.out.bel.size))
  have HOO := Lib.hid (show Owns w3 w.heap.size 9 (.slice (some ⟨w2.heap.size, 0, none⟩) 0 0) ((cutL 64 (fs.take 0)).map tx) from owns_base ((owns_none w2).below hb3) HSW0.out.bel.size)
  have HAV := Lib.hid (show Av w fb cb mb db [(vF, fs)] (.slice (some ⟨w2.heap.size, 0, none⟩) 0 0) from fun g hg => by
    obtain ⟨q1, _, q3⟩ := HSW0.out.new (o := .slice (some ⟨w2.heap.size, 0, none⟩) 0 0) rfl g hg
    refine ⟨q1, fun p hp e => ?_, q3⟩
    rw [List.mem_singleton] at hp
    subst hp
    have hg2 : w2.heap.size = g := by injection hg
    have h9 := (hoF.lt _ e).2
    rw [show (w2.alloc (.cells #[] 9)).heap.size = w2.heap.size + 1 by simp] at h9
    omega)
  obtain ⟨aF, cF, hvF, _, _, _⟩ := hoF.form
  rw [List.length_map] at hvF
  subst hvF
  clear HF hoF hb3 HSW0 HSW1
  go_wp2_with fail
  go_loopw [10, 31] (fun o x wr => ∃ j : Nat, j ≤ fs.length ∧ x = .int .i64 j ∧ Hid (SureW w fb cb mb db 12 false 0 b0 0 (.map []) [(.slice aF fs.length cF, fs)] wr) ∧ Hid (Owns wr w.heap.size 9 o ((cutL 64 (fs.take j)).map tx)) ∧ Hid (Av w fb cb mb db [(.slice aF fs.length cF, fs)] o)) (fun _ x _ => fs.length - (intOf x).toNat)
  case atStart => exact ⟨0, by omega, rfl, HSW, HOO, HAV⟩
  case round =>
    obtain ⟨j, hj, rfl, HSR, HOR, HAR⟩ := hrel
    by_cases hlt : j < fs.length
    · have hd : decide ((j : Int) < (fs.length : Int)) = true := by simp; omega
      obtain ⟨s, hs⟩ : ∃ s, s = fs.getD j [] := ⟨_, rfl⟩
      obtain ⟨a', cap', hv', hc'⟩ := Txs.of_owns (HSR.out.own _ (List.mem_cons_self ..))
      injection hv' with h1 h2 h3
      obtain ⟨b, off, ha, hcell⟩ := hc' j hlt
      rw [← h1] at ha
      subst ha
      rw [← hs] at hcell
      have HST := Lib.hid (cutL_step (m := 64) hlt)
      rw [← hs] at HST
      have HC := Lib.hid (fun W => cutB s 64 (by omega) W)
      rw [show (64 : Int).toNat = 64 from rfl] at HC
      obtain ⟨x, hx⟩ : ∃ x, x = s.take 64 := ⟨_, rfl⟩
      rw [← hx] at HST HC
      have HLE := Lib.hid (show ((cutL 64 (fs.take j)).map tx).length + [tx x].length ≤ 1099511627776 by rw [List.length_map, length_cutL, List.length_take]; simp; omega)
      have HONE := Lib.hid (show ∀ u ∈ [tx x], u.oneCell' = true by intro u hu; simp at hu; subst hu; rfl)
      have HS1 := Lib.hid (HSR.out.below (belowSelf wr (.cells #[tx x] 9)))
      have hbz := HSR.out.bel.size
      clear hs h1 h2 h3 hc' hx
      go_wp2_with fail
      refine (HC.out _).mono ?_
      rintro e w9 ⟨rfl, rfl⟩
      go_wp2_with (first
        | (at_builtin; refine wp_append_news (HOR.out.alloc _) 0 (Below.refl 0 _) (Nat.zero_le _) [tx x] (.tmp 35) (.tmp 38) 26 tt (.string ⟨#[]⟩) rfl rfl Try.underlying26 HTT.out HTZ.out HTS.out HTB.out rfl rfl rfl (fun j u hu => cell_news_one _ _ _ j u hu) HONE.out HLE.out (by simp; omega) ?_
           intro v8 w8 hown8 _ _ hg8 hat8
           rw [← HST.out] at hown8
           have HO8 := Lib.hid hown8
           have HS8 := Lib.hid (HS1.out.grow hg8 HAR.out)
           have HA8 := Lib.hid (Av.step HS1.out HAR.out hat8)
           clear hown8 hg8 hat8)
        | fail)
      refine ⟨⟨j + 1, by omega, by go_num, HS8, HO8, HA8⟩, ?_⟩
      simp [intOf]; omega
    · have ej : j = fs.length := by omega
      subst ej
      have hd : decide ((fs.length : Int) < (fs.length : Int)) = false := by simp
      rw [List.take_length] at HOR
      obtain ⟨aO, cO, hvO, _, _, _⟩ := HOR.out.form
      rw [List.length_map] at hvO
      subst hvO
      have HSA := Lib.hid (SureW.mk HSR.out.dk (prot := []) (by simp) HSR.out.bel |>.cons HOR.out)
      clear HSR HAR HSW HOO HAV
      obtain ⟨sure, hsure⟩ : ∃ s, s = cutL 64 fs := ⟨_, rfl⟩
      have HSL := Lib.hid (show ∀ l ∈ sure, l.length ≤ 64 by rw [hsure]; exact cutL_le)
      have hm1 : sure.length ≤ 6 := by rw [hsure]; exact HL0.out
      rw [← hsure] at HSA HOR
      simp only [← hsure]
      clear hsure HL0
      have HSA1 := Lib.hid (HSA.out.below (belowSelf wr (.cells #[] 9)))
      have HF := Lib.hid (few_any _ v1 ls1 (HV1.out.below HSA1.out.bel) HN1.out)
      obtain ⟨gs, hgs⟩ : ∃ fs, fs = cutL 70 (ls1.take 6) := ⟨_, rfl⟩
      rw [← hgs] at HF HL1 hF1
      clear hgs
      obtain ⟨wa, hwa⟩ : ∃ W, W = wr := ⟨_, rfl⟩
      rw [← hwa] at HSA HSA1 HF
      rw [← hwa]
      clear hwa HOR
      go_wp2_with fail
      refine HF.out.mono ?_
      rintro e w4 ⟨vG, rfl, hoG, hb4⟩
      have HSW := Lib.hid ((HSA1.out.below hb4).cons (owns_base hoG HSA1.out.bel.size))
      have HOO := Lib.hid (show Owns w4 w.heap.size 9 (.slice (some ⟨wa.heap.size, 0, none⟩) 0 0) ((cutL 64 (gs.take 0)).map tx) from owns_base ((owns_none wa).below hb4) HSA.out.bel.size)
      have HAV := Lib.hid (show Av w fb cb mb db [(vG, gs), (.slice aO sure.length cO, sure)] (.slice (some ⟨wa.heap.size, 0, none⟩) 0 0) from fun g hg => by
        obtain ⟨q1, q2, q3⟩ := HSA.out.new (o := .slice (some ⟨wa.heap.size, 0, none⟩) 0 0) rfl g hg
        refine ⟨q1, fun p hp e => ?_, q3⟩
        rcases List.mem_cons.1 hp with rfl | hp
        · have hg2 : wa.heap.size = g := by injection hg
          have h9 := (hoG.lt _ e).2
          rw [show (wa.alloc (.cells #[] 9)).heap.size = wa.heap.size + 1 by simp] at h9
          omega
        · exact q2 p hp e)
      obtain ⟨aG, cG, hvG, _, _, _⟩ := hoG.form
      rw [List.length_map] at hvG
      subst hvG
      clear HF hoG hb4 HSA HSA1
      go_wp2_with fail
      go_loopw [13, 45] (fun o x wr => ∃ j : Nat, j ≤ gs.length ∧ x = .int .i64 j ∧ Hid (SureW w fb cb mb db 12 false 0 b0 0 (.map []) [(.slice aG gs.length cG, gs), (.slice aO sure.length cO, sure)] wr) ∧ Hid (Owns wr w.heap.size 9 o ((cutL 64 (gs.take j)).map tx)) ∧ Hid (Av w fb cb mb db [(.slice aG gs.length cG, gs), (.slice aO sure.length cO, sure)] o)) (fun _ x _ => gs.length - (intOf x).toNat)
      case atStart => exact ⟨0, by omega, rfl, HSW, HOO, HAV⟩
      case round =>
        obtain ⟨j, hj, rfl, HSR, HOR, HAR⟩ := hrel
        by_cases hlt : j < gs.length
        · have hd : decide ((j : Int) < (gs.length : Int)) = true := by simp; omega
          obtain ⟨s, hs⟩ : ∃ s, s = gs.getD j [] := ⟨_, rfl⟩
          obtain ⟨a', cap', hv', hc'⟩ := Txs.of_owns (HSR.out.own _ (List.mem_cons_self ..))
          injection hv' with h1 h2 h3
          obtain ⟨b, off, ha, hcell⟩ := hc' j hlt
          rw [← h1] at ha
          subst ha
          rw [← hs] at hcell
          have HST := Lib.hid (cutL_step (m := 64) hlt)
          rw [← hs] at HST
          have HC := Lib.hid (fun W => cutB s 64 (by omega) W)
          rw [show (64 : Int).toNat = 64 from rfl] at HC
          obtain ⟨x, hx⟩ : ∃ x, x = s.take 64 := ⟨_, rfl⟩
          rw [← hx] at HST HC
          have HLE := Lib.hid (show ((cutL 64 (gs.take j)).map tx).length + [tx x].length ≤ 1099511627776 by rw [List.length_map, length_cutL, List.length_take]; simp; omega)
          have HONE := Lib.hid (show ∀ u ∈ [tx x], u.oneCell' = true by intro u hu; simp at hu; subst hu; rfl)
          have HS1 := Lib.hid (HSR.out.below (belowSelf wr (.cells #[tx x] 9)))
          have hbz := HSR.out.bel.size
          clear hs h1 h2 h3 hc' hx
          go_wp2_with fail
          refine (HC.out _).mono ?_
          rintro e w9 ⟨rfl, rfl⟩
          go_wp2_with (first
            | (at_builtin; refine wp_append_news (HOR.out.alloc _) 0 (Below.refl 0 _) (Nat.zero_le _) [tx x] (.tmp 49) (.tmp 52) 26 tt (.string ⟨#[]⟩) rfl rfl Try.underlying26 HTT.out HTZ.out HTS.out HTB.out rfl rfl rfl (fun j u hu => cell_news_one _ _ _ j u hu) HONE.out HLE.out (by simp; omega) ?_
               intro v8 w8 hown8 _ _ hg8 hat8
               rw [← HST.out] at hown8
               have HO8 := Lib.hid hown8
               have HS8 := Lib.hid (HS1.out.grow hg8 HAR.out)
               have HA8 := Lib.hid (Av.step HS1.out HAR.out hat8)
               clear hown8 hg8 hat8)
            | fail)
          refine ⟨⟨j + 1, by omega, by go_num, HS8, HO8, HA8⟩, ?_⟩
          simp [intOf]; omega
        · have ej : j = gs.length := by omega
          subst ej
          have hd : decide ((gs.length : Int) < (gs.length : Int)) = false := by simp
          rw [List.take_length] at HOR
          obtain ⟨aP, cP, hvP, _, _, _⟩ := HOR.out.form
          rw [List.length_map] at hvP
          subst hvP
          have HD0 := Lib.hid HSR.out.dk
          have HB0 := Lib.hid HSR.out.bel
          have HT1 := Lib.hid (Txs.of_owns (HSR.out.own _ (List.mem_cons_of_mem _ (List.mem_cons_self ..))))
          have HT2 := Lib.hid (Txs.of_owns HOR.out)
          obtain ⟨other, hother⟩ : ∃ s, s = cutL 64 gs := ⟨_, rfl⟩
          have HOL := Lib.hid (show ∀ l ∈ other, l.length ≤ 64 by rw [hother]; exact cutL_le)
          have hm2 : other.length ≤ 6 := by rw [hother]; exact HL1.out
          rw [← hother] at HT2
          simp only [← hother]
          dsimp only at HT1
          clear HSR HOR HAR HSW HOO HAV HL1 hother
          have HW := Lib.hid (write_ok 6 (.slice aO sure.length cO) sure HT1.out (by omega) HD0.out (by omega) HSL.out rfl)
          go_wp2_with (first
            | (refine wp_max0 (c := n) (d := 0) (.tmp 55) (.const (.int .i64 0)) rfl rfl rfl rfl ?_)
            | (refine wp_min0 (c := max n 0) (d := 6) (.tmp 56) (.const (.int .i64 6)) HK.out rfl rfl rfl rfl ?_)
            | fail)
          refine HW.out.mono ?_
          rintro e w5 ⟨rfl, hd5, ho5⟩
          have HB5 := Lib.hid (Only.belowW HB0.out ho5 HG.out)
          have HT5 := Lib.hid (HT2.out.only HD0.out ho5)
          have HS := Lib.hid (sync_ok hd5 rfl)
          clear HW HD0 HB0 HT1 HT2
          go_wp2_with fail
          refine HS.out.mono ?_
          rintro e w6 ⟨rfl, hd6, ho6, -⟩
          have HB6 := Lib.hid (Only.belowW HB5.out ho6 HG.out)
          have HT6 := Lib.hid (HT5.out.only hd5 ho6)
          obtain ⟨b1, hb1⟩ : ∃ b, b = (wrTo b0 (.map []) 6 sure sure.length).1 := ⟨_, rfl⟩
          rw [← hb1] at hd6
          have HR := Lib.hid (read_ok 6 6 hd6 (by omega) rfl)
          clear HS HB5 HT5 hd5 ho5 hb1 ho6
          go_wp2_with fail
          refine HR.out.mono ?_
          rintro e w7 ⟨rfl, hd7, ho7, -⟩
          have HB7 := Lib.hid (Only.belowW HB6.out ho7 HG.out)
          have HT7 := Lib.hid (HT6.out.only hd6 ho7)
          have HD7 := Lib.hid hd7
          have HW := Lib.hid (write_ok k (.slice aP other.length cP) other HT7.out (by omega) hd7 (by omega) HOL.out rfl)
          clear HR HB6 HT6 hd6 hd7 ho7
          go_wp2_with fail
          refine HW.out.mono ?_
          rintro e w8 ⟨rfl, hd8, ho8⟩
          have HB8 := Lib.hid (Only.belowW HB7.out ho8 HG.out)
          have HDU := Lib.hid (Du.write (ls := other) (Du.none 12) isMap_empty HD7.out.len (show k + other.length ≤ 12 by omega) HOL.out other.length (Nat.le_refl _))
          have HC := Lib.hid (crash_any v3 ch _ (HV3.out.below HB8.out) (fun hne g hg hm => by
            have h1 := HZ3.out hne g hg
            have h2 := HG.out g hm
            omega) hn3 (by omega) hd8 HDU.out)
          clear HW HB7 HT7 hd8 ho8
          go_wp2_with fail
          refine HC.out.mono ?_
          rintro e w9 ⟨rfl, hd9, ho9⟩
          have HB9 := Lib.hid (Only.belowW HB8.out ho9 HG.out)
          have hb1l := HD7.out.len
          have hwl := length_wrTo (D := .map []) hb1l (show k + other.length ≤ 12 by omega) HOL.out other.length (Nat.le_refl _)
          have hcl := length_crTo (ch := ch) hwl HDU.out.lens _ (Nat.le_refl _)
          have HEQ := Lib.hid (fun q (hq : q < 6) (hn : ¬ (k ≤ 6 + q ∧ 6 + q < k + other.length)) => sure_row (ch := ch) hb1l (show k + other.length ≤ 12 by omega) HOL.out HDU.out (q := 6 + q) hn)
          obtain ⟨bz, hbz⟩ : ∃ b, b = crTo (wrTo b1 (.map []) k other other.length).1 (duTo (fun _ => none) b1 (.map []) k other other.length) (looseL (duTo (fun _ => none) b1 (.map []) k other other.length) 12) ch (looseL (duTo (fun _ => none) b1 (.map []) k other other.length) 12).length := ⟨_, rfl⟩
          rw [← hbz] at hd9 hcl
          simp only [← hbz] at HEQ
          have HR := Lib.hid (read_ok 6 6 hd9 (by omega) rfl)
          have HWL := Lib.hid (length_rowS hb1l (show 6 + 6 ≤ 12 by omega))
          have HNL := Lib.hid (length_rowS hcl (show 6 + 6 ≤ 12 by omega))
          have HWP := Lib.hid (fun q (hq : q < 6) => row_of_row (bs := b1) (i := 6) hq)
          have HNP := Lib.hid (fun q (hq : q < 6) => row_of_row (bs := bz) (i := 6) hq)
          obtain ⟨was, hwas⟩ : ∃ x, x = rowS b1 6 6 := ⟨_, rfl⟩
          obtain ⟨now, hnow⟩ : ∃ x, x = rowS bz 6 6 := ⟨_, rfl⟩
          rw [← hwas] at HWL
          rw [← hnow] at HNL HR
          simp only [← hwas] at HWP
          simp only [← hnow] at HNP
          simp only [← hwas]
          clear HC HB8 hd9 ho9 hbz hb1l hwl hcl hwas hnow HD7 HDU
          go_wp2_with fail
          refine HR.out.mono ?_
          rintro e w10 ⟨rfl, -, ho10, -⟩
          have HB10 := Lib.hid (Only.belowW HB9.out ho10 HG.out)
          clear HR HB9 ho10
          go_wp2_with fail
          go_loopw [87] (fun i wr => ∃ j : Nat, j ≤ 6 ∧ i = .int .i64 j ∧ Hid (Below w.heap.size w wr)) (fun i _ => 6 - (intOf i).toNat)
          case atStart => exact ⟨0, by omega, rfl, HB10⟩
          case round =>
            obtain ⟨j, hj, rfl, HBR⟩ := hrel
            by_cases hlt : j < 6
            · have hd : decide ((j : Int) < 6) = true := by simp; omega
              obtain ⟨a, ha⟩ : ∃ a, a = rowS b1 (6 + j) 1 := ⟨_, rfl⟩
              obtain ⟨b, hb⟩ : ∃ a, a = rowS bz (6 + j) 1 := ⟨_, rfl⟩
              have HE := Lib.hid (HEQ.out j hlt)
              rw [← ha, ← hb] at HE
              have hs1 : ∀ W, (Instr.slice 9 (.string (str was)) (some (.int .i64 (64 * (j : Int)))) (some (.int .i64 (64 * (j : Int) + 64))) none).run Try.prog W = .ok (.string (str a)) W := fun W => by
                rw [ha, ← HWP.out j hlt]
                exact slice_str_mid (P := Try.prog) Try.underlying9 was .i64 .i64 (64 * j) (64 * j + 64) (by omega) (by rw [HWL.out]; omega) W
              have hs2 : ∀ W, (Instr.slice 9 (.string (str now)) (some (.int .i64 (64 * (j : Int)))) (some (.int .i64 (64 * (j : Int) + 64))) none).run Try.prog W = .ok (.string (str b)) W := fun W => by
                rw [hb, ← HNP.out j hlt]
                exact slice_str_mid (P := Try.prog) Try.underlying9 now .i64 .i64 (64 * j) (64 * j + 64) (by omega) (by rw [HNL.out]; omega) W
              have hw1 : IntKind.i64.wrap (64 * (j : Int)) = 64 * (j : Int) := IntWalk.i64_in _ (by omega)
              have hw2 : IntKind.i64.wrap (64 * (j : Int) + 64) = 64 * (j : Int) + 64 := IntWalk.i64_in _ (by omega)
              clear ha hb
              go_wp2_with fail
              go_quiet (fail)
              rename_i K hK
              refine hK _ _ ?_
              have HB2 := Lib.hid (below_drewN HBR.out nq)
              clear hs1 hs2 hw1 hw2
              by_cases hab : a = b
              · subst hab
                by_cases c1 : k ≤ 6 + j
                · have d1 : decide ((k : Int) ≤ 6 + (j : Int)) = true := by simp; omega
                  by_cases c2 : 6 + j < k + other.length
                  · have d2 : decide (6 + (j : Int) < (k : Int) + (other.length : Int)) = true := by simp; omega
                    go_wp2
                    refine ⟨⟨j + 1, by omega, by go_num, HB2⟩, ?_⟩
                    simp [intOf]; omega
                  · have d2 : decide (6 + (j : Int) < (k : Int) + (other.length : Int)) = false := by simp; omega
                    go_wp2
                    refine ⟨⟨j + 1, by omega, by go_num, HB2⟩, ?_⟩
                    simp [intOf]; omega
                · have d1 : decide ((k : Int) ≤ 6 + (j : Int)) = false := by simp; omega
                  go_wp2
                  refine ⟨⟨j + 1, by omega, by go_num, HB2⟩, ?_⟩
                  simp [intOf]; omega
              · have c1 : k ≤ 6 + j ∧ 6 + j < k + other.length := Classical.byContradiction fun hn => hab (HE.out hn).symm
                have d1 : decide ((k : Int) ≤ 6 + (j : Int)) = true := by simp; omega
                have d2 : decide (6 + (j : Int) < (k : Int) + (other.length : Int)) = true := by simp; omega
                clear hab
                go_wp2
                all_goals
                  refine ⟨⟨j + 1, by omega, by go_num, HB2⟩, ?_⟩
                  simp [intOf]; omega
            · have e : j = 6 := by omega
              subst e
              have hd : decide ((6 : Int) < 6) = false := by simp
              go_wp2_with fail
              go_ret
              exact ⟨rfl, HBR.out⟩
end Go.Proofs.Ytlnijldpddcmoaa
