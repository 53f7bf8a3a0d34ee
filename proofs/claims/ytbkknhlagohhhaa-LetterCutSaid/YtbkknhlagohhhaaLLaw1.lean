/-
  LetterReplies: the walk.
-/
import Derived.Test.YtbkknhlagohhhaaLet9
namespace Go.Proofs.Ytbkknhlagohhhaa
open Go.RowKit Crv

attribute [local go_sem ↓] ld_lt ld_idL
theorem cutV_zsr {W : World} {v : Value} {xs : List Int} (h : ZsR W v xs) : ZsR W (cutV v) (xs.take 10) := by
  rcases h with ⟨rfl, rfl⟩ | ⟨ad, cap, rfl, hc, hcell⟩
  · exact .inl ⟨rfl, rfl⟩
  · refine .inr ⟨ad, cap, ?_, by rw [List.length_take]; omega, fun i u hu => ?_⟩
    · rw [List.length_take, Nat.min_comm]
      rfl
    · rw [List.map_take] at hu
      rcases Nat.lt_or_ge i 10 with hi | hi
      · rw [List.getElem?_take_of_lt hi] at hu
        exact hcell i u hu
      · rw [List.getElem?_eq_none (by rw [List.length_take]; omega)] at hu
        cases hu
theorem refName_any (k : Int) (w : World) : Calls Try.prog 25 #[.int .i64 k] w fun e w' => e = .returned (.bool (idK k)) ∧ w = w' := by
  unfold idK
  by_cases h : 3 ≤ k
  all_goals
    simp only [h, decide_true, decide_false, Bool.true_and, Bool.false_and]
    go_enter Try.func25, Try.ntmps25
    go_wp2
    go_ret
    exact ⟨rfl, rfl⟩
theorem whatK_eq (k : Int) : whatK k = (decide (7 ≤ k) && decide (k ≤ 9)) := by
  unfold whatK
  rw [Bool.eq_iff_iff]
  simp
  omega
theorem refWhat_any (k : Int) (w : World) : Calls Try.prog 26 #[.int .i64 k] w fun e w' => e = .returned (.bool (whatK k)) ∧ w = w' := by
  rw [whatK_eq]
  by_cases h : 7 ≤ k
  all_goals
    simp only [h, decide_true, decide_false, Bool.true_and, Bool.false_and]
    go_enter Try.func26, Try.ntmps26
    go_wp2
    go_ret
    exact ⟨rfl, rfl⟩
set_option maxHeartbeats 4000000 in
set_option maxRecDepth 100000 in
theorem letterReplies_walk (l : LV) (k : Int) (ps hs : List Int) (W : World) (hid : l.id.length = 32) (hps : ZsR W l.pv ps) (hhs : ZsR W l.hv hs) (hpm : ps.length ≤ 9223372036854775807) (hhm : hs.length ≤ 9223372036854775807) :
    Calls Try.prog 5 #[.agg (ltC l).toArray, .int .i64 k] W fun e w' => e = .returned (.bool true) ∧ Below W.heap.size W w' := by
  have hM0 : Mem (W.alloc (.cells (ltC l).toArray Tlt)) W.heap.size Tlt (ltC l) := Mem.new W Tlt (ltC l)
  have hB0 := belowSelf W (.cells (ltC l).toArray Tlt)
  have hl0 := ld_lt_at hM0 hid
  obtain ⟨pa, pc, hpv, hpc⟩ := hps.form
  obtain ⟨ha, hc, hhv, hhc⟩ := hhs.form
  have HFE := Lib.hid (few_any l (W.alloc (.cells (ltC l).toArray Tlt)) hid pa ps.length pc hpv hpc ha hs.length hc hhv hhc hpm hhm)
  have HPS := Lib.hid (cutV_zsr hps)
  have HHS := Lib.hid (cutV_zsr hhs)
  obtain ⟨f, hf⟩ : ∃ f, f = fewL l := ⟨_, rfl⟩
  have hidf : f.id.length = 32 := by rw [hf]; exact hid
  have HTL := Lib.hid (show f.text.length ≤ 600 by rw [hf]; show (l.text.take 600).length ≤ 600; rw [List.length_take]; omega)
  have HFP := Lib.hid (show f.pv = cutV l.pv by rw [hf]; rfl)
  have HFH := Lib.hid (show f.hv = cutV l.hv by rw [hf]; rfl)
  rw [← hf] at HFE
  have SZ := Lib.hid (sz_lt f hidf)
  have ONE := Lib.hid (one_ltC f (by rw [HFP.out, hpv]; rfl) (by rw [HFH.out, hhv]; rfl))
  have HLE := Lib.hid (show (ltC l).length = (ltC f).length by rw [length_ltC l hid, length_ltC f hidf])
  have HM0 := Lib.hid hM0
  have HB0 := Lib.hid hB0
  have HIDF := Lib.hid hidf
  have HAW := Lib.hid awake17_any
  clear hM0 hB0 hpv hhv hf hidf hid hps hhs hpc hhc
  go_enter Try.func5, Try.ntmps5
  go_wp2_with fail
  refine HFE.out.mono ?_
  rintro e w1 ⟨rfl, hb1⟩
  have HM1 := Lib.hid (HM0.out.below hb1 HM0.out.lt)
  have HB1 := Lib.hid (HB0.out.trans (hb1.mono HB0.out.size))
  clear hb1 HB0 HFE hl0
  go_wp2_with (first
    | (refine wp_store_gen (B := W.heap.size) (w0 := W) HB1.out (Nat.le_refl _) HM1.out (ltC f) Tlt (.tmp 2) (.tmp 7) rfl rfl rfl rfl SZ.out HLE.out ONE.out ?_
       intro W2 hm2 hb2 hsz2 ho2
       have HM2 := Lib.hid hm2
       have HB2 := Lib.hid hb2
       clear hm2 hb2 hsz2 ho2)
    | fail)
  refine (HAW.out _).mono ?_
  rintro e w3 ⟨rfl, hb3⟩
  have HM3 := Lib.hid (HM2.out.below hb3 HM2.out.lt)
  have HB3 := Lib.hid (HB2.out.trans (hb3.mono HB2.out.size))
  have hl3 := ld_lt_at HM3.out HIDF.out
  have hch := check_any f w3 HIDF.out (ps.take 10) (hs.take 10) (by rw [HFP.out]; exact HPS.out.below HB3.out) (by rw [HFH.out]; exact HHS.out.below HB3.out) (by rw [List.length_take]; omega) (by rw [List.length_take]; omega) (by have := HTL.out; omega)
  obtain ⟨c, hcc⟩ : ∃ c, c = chkL f (ps.take 10) (hs.take 10) := ⟨_, rfl⟩
  rw [← hcc] at hch
  have HCH := Lib.hid hch
  clear hb3 hch hcc HM2 HB2 HPS HHS
  by_cases hc0 : c = 0
  case neg =>
    have hne : ((c : Int) != 0) = true := by
      rw [bne_iff_ne]
      omega
    clear hc0
    go_wp2_with fail
    refine HCH.out.mono ?_
    rintro e w4 ⟨rfl, hb4⟩
    have HB4 := Lib.hid (HB3.out.trans (hb4.mono HB3.out.size))
    clear hb4
    go_wp2_with fail
    refine (HAW.out _).mono ?_
    rintro e w5 ⟨rfl, hb5⟩
    have HB5 := Lib.hid (HB4.out.trans (hb5.mono HB4.out.size))
    clear hb5
    go_wp2_with fail
    go_ret
    exact ⟨rfl, HB5.out⟩
  case pos =>
    subst hc0
    go_wp2_with fail
    refine HCH.out.mono ?_
    rintro e w4 ⟨rfl, hb4⟩
    have HM4 := Lib.hid (HM3.out.below hb4 HM3.out.lt)
    have HB4 := Lib.hid (HB3.out.trans (hb4.mono HB3.out.size))
    have hl4 := ld_lt_at HM4.out HIDF.out
    clear hb4 HM3 HB3 HCH hl3
    go_wp2_with fail
    obtain ⟨kk, hkk⟩ : ∃ kk, kk = wrap64 (1 + (wrap64 (k.tmod 10 + 10)).tmod 10) := ⟨_, rfl⟩
    simp only [← hkk]
    clear hkk
    refine (reply_any f kk w4 HIDF.out).mono ?_
    rintro e w5 ⟨rfl, hb5⟩
    obtain ⟨r, hr⟩ : ∃ r, r = replyL f kk := ⟨_, rfl⟩
    rw [← hr]
    have hridl : r.id.length = 32 := by
      rw [hr]
      show (if idK kk then f.id else zeroL.id).length = 32
      split
      · exact HIDF.out
      · rfl
    have HRF := Lib.hid (show r.kind = kk ∧ r.fr = f.to ∧ r.to = f.fr ∧ r.seq = f.seq ∧ r.text = [] ∧ r.pv = .slice none 0 0 ∧ r.hv = .slice none 0 0 by rw [hr]; exact ⟨rfl, rfl, rfl, rfl, rfl, rfl, rfl⟩)
    have HRI := Lib.hid (show r.id = (if idK kk then f.id else z32) ∧ r.what = (if whatK kk then f.what else 0) by rw [hr]; exact ⟨rfl, rfl⟩)
    have HM5 := Lib.hid (HM4.out.below hb5 HM4.out.lt)
    have hB5 := HB4.out.trans (hb5.mono HB4.out.size)
    have HA5 := Lib.hid (zA_mem w5)
    have hA := belowSelf w5 (.cells zA Tlt)
    have HM5a := Lib.hid (HM5.out.below hA HM5.out.lt)
    have HB5a := Lib.hid (hB5.trans (hA.mono hB5.size))
    have hlt5 : W.heap.size < w5.heap.size := HM5.out.lt
    have SZR := Lib.hid (sz_lt r hridl)
    have ONER := Lib.hid (one_ltC r (by rw [HRF.out.2.2.2.2.2.1]; rfl) (by rw [HRF.out.2.2.2.2.2.2]; rfl))
    have HLR := Lib.hid (show (ltC zeroL).length = (ltC r).length by rw [length_ltC zeroL rfl, length_ltC r hridl])
    have HIDR := Lib.hid hridl
    have HNA := Lib.hid (fun w => refName_any kk w)
    have HWA := Lib.hid (fun w => refWhat_any kk w)
    clear hb5 hr hridl hB5 hA HM4 HB4 hl4
    go_wp2_with (first
      | (refine wp_store_gen (B := W.heap.size) (w0 := W) HB5a.out (Nat.le_of_lt hlt5) HA5.out (ltC r) Tlt (.tmp 5) (.tmp 23) rfl rfl rfl rfl SZR.out HLR.out ONER.out ?_
         intro W6 hm6 hb6 hsz6 ho6
         have HX6 := Lib.hid hm6
         have HM6 := Lib.hid (show Mem W6 W.heap.size Tlt (ltC f) from (ho6 _ (by omega)).trans HM5a.out)
         have HB6 := Lib.hid hb6
         obtain ⟨⟨a0, a1, a2, a3⟩, a36, a37, a38, a39⟩ := lt_cells HX6.out HIDR.out
         rw [HRF.out.1] at a0
         rw [HRF.out.2.1] at a1
         rw [HRF.out.2.2.1] at a2
         rw [HRF.out.2.2.2.1] at a3
         rw [HRF.out.2.2.2.2.1] at a37
         rw [HRF.out.2.2.2.2.2.1] at a38
         rw [HRI.out.2] at a36
         obtain ⟨⟨b0, b1, b2, b3⟩, b36, b37, b38, b39⟩ := lt_cells HM6.out HIDF.out
         have xr := run_loadAt_mid W6 w5.heap.size 4 Ti (r.id.map byteV) (.array 32 5) (ltC_rng HX6.out) Try.underlying23 rfl (sz_id r.id HIDR.out)
         have xf := run_loadAt_mid W6 W.heap.size 4 Ti (f.id.map byteV) (.array 32 5) (ltC_rng HM6.out) Try.underlying23 rfl (sz_id f.id HIDF.out)
         rw [ld_idL] at xr xf
         rw [HRI.out.1] at xr
         clear hm6 hb6 hsz6 ho6 a39 b37 b38 b39)
      | fail)
    rcases Bool.eq_false_or_eq_true (idK kk) with hk | hk
    · rw [hk] at HNA
      simp only [hk, if_true] at xr
      have heq : ∀ w, (Op.equalIn 10000 Ti (.agg (f.id.map byteV).toArray) (.agg (f.id.map byteV).toArray)).run Try.prog w = .ok true w := fun w => by
        rw [run_equalIn_bytes Ti 5 32 Try.underlying23 Try.underlying5 (by kernel_rfl) 9998 f.id f.id HIDF.out HIDF.out w]
        simp
      clear hk
      rcases Bool.eq_false_or_eq_true (whatK kk) with hw | hw
      all_goals
        rw [hw] at HWA
        simp only [hw, if_true, Bool.false_eq_true, if_false] at a36
        clear hw
        refine (HNA.out _).mono ?_
        rintro e w ⟨rfl, rfl⟩
        go_wp2_with fail
        refine (HNA.out _).mono ?_
        rintro e w ⟨rfl, rfl⟩
        go_wp2_with fail
        refine (HWA.out _).mono ?_
        rintro e w ⟨rfl, rfl⟩
        go_wp2_with fail
        first
          | (go_ret
             exact ⟨rfl, HB6.out⟩)
          | (refine (HWA.out _).mono ?_
             rintro e w ⟨rfl, rfl⟩
             go_wp2_with fail
             go_ret
             exact ⟨rfl, HB6.out⟩)
    · rw [hk] at HNA
      simp only [hk, Bool.false_eq_true, if_false] at xr
      obtain ⟨y, hy⟩ : ∃ y, y = z32 := ⟨_, rfl⟩
      rw [← hy] at xr
      have heq : ∀ w, (Op.equalIn 10000 Ti (.agg (y.map byteV).toArray) (.agg zs32)).run Try.prog w = .ok true w := fun w => by
        have h := run_equalIn_bytes (P := Try.prog) Ti 5 32 Try.underlying23 Try.underlying5 (by kernel_rfl) 9998 y z32 (by rw [hy]; rfl) rfl w
        rw [decide_eq_true hy] at h
        exact h
      clear hk hy
      rcases Bool.eq_false_or_eq_true (whatK kk) with hw | hw
      all_goals
        rw [hw] at HWA
        simp only [hw, if_true, Bool.false_eq_true, if_false] at a36
        clear hw
        refine (HNA.out _).mono ?_
        rintro e w ⟨rfl, rfl⟩
        go_wp2_with fail
        refine (HNA.out _).mono ?_
        rintro e w ⟨rfl, rfl⟩
        go_wp2_with fail
        refine (HWA.out _).mono ?_
        rintro e w ⟨rfl, rfl⟩
        go_wp2_with fail
        first
          | (go_ret
             exact ⟨rfl, HB6.out⟩)
          | (refine (HWA.out _).mono ?_
             rintro e w ⟨rfl, rfl⟩
             go_wp2_with fail
             go_ret
             exact ⟨rfl, HB6.out⟩)
end Go.Proofs.Ytbkknhlagohhhaa
