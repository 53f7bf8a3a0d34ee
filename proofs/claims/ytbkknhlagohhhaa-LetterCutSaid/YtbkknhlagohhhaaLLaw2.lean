/-
  LetterCut: the walk.
-/
import Derived.Test.YtbkknhlagohhhaaLLaw1
import Derived.Test.YtbkknhlagohhhaaLet20
namespace Go.Proofs.Ytbkknhlagohhhaa
open Go.RowKit Crv

attribute [local go_sem ↓] ld_lt ld_idL
theorem APPZ (s : List UInt8) : tx (s ++ [0]) = Value.string (str s ++ ⟨#[0]⟩) := by
  have h : str s ++ ⟨#[0]⟩ = str (s ++ [0]) := by
    rw [str_eq (str s ++ ⟨#[0]⟩)]
    congr 2
  rw [h]
set_option maxHeartbeats 4000000 in
set_option maxRecDepth 100000 in
theorem letterCut_walk (l : LV) (n : Int) (ps hs : List Int) (W : World) (hid : l.id.length = 32) (hps : ZsR W l.pv ps) (hhs : ZsR W l.hv hs) (hpm : ps.length ≤ 9223372036854775807) (hhm : hs.length ≤ 9223372036854775807) :
    Calls Try.prog 7 #[.agg (ltC l).toArray, .int .i64 n] W fun e w' => e = .returned (.bool true) ∧ Below W.heap.size W w' := by
  have hM0 : Mem (W.alloc (.cells (ltC l).toArray Tlt)) W.heap.size Tlt (ltC l) := Mem.new W Tlt (ltC l)
  have hB0 := belowSelf W (.cells (ltC l).toArray Tlt)
  have hl0 := ld_lt_at hM0 hid
  obtain ⟨pa, pc, hpv, hpc⟩ := hps.form
  obtain ⟨ha, hc, hhv, hhc⟩ := hhs.form
  have HFE := Lib.hid (few_any l (W.alloc (.cells (ltC l).toArray Tlt)) hid pa ps.length pc hpv hpc ha hs.length hc hhv hhc hpm hhm)
  have HPS := Lib.hid (cutV_zsr hps)
  have HHS := Lib.hid (cutV_zsr hhs)
  obtain ⟨f, hf⟩ : ∃ f, f = fewL l := ⟨_, rfl⟩
  have hidf : f.id.length = 32 := by rw [hf]; exact hid
  have HTL := Lib.hid (show f.text.length ≤ 600 by rw [hf]; show (l.text.take 600).length ≤ 600; rw [List.length_take]; omega)
  have HFP := Lib.hid (show f.pv = cutV l.pv by rw [hf]; rfl)
  have HFH := Lib.hid (show f.hv = cutV l.hv by rw [hf]; rfl)
  rw [← hf] at HFE
  have SZ := Lib.hid (sz_lt f hidf)
  have ONE := Lib.hid (one_ltC f (by rw [HFP.out, hpv]; rfl) (by rw [HFH.out, hhv]; rfl))
  have HLE := Lib.hid (show (ltC l).length = (ltC f).length by rw [length_ltC l hid, length_ltC f hidf])
  have HM0 := Lib.hid hM0
  have HB0 := Lib.hid hB0
  have HIDF := Lib.hid hidf
  have HAW := Lib.hid awake17_any
  clear hM0 hB0 hpv hhv hf hidf hid hps hhs hpc hhc
  go_enter Try.func7, Try.ntmps7
  go_wp2_with fail
  refine HFE.out.mono ?_
  rintro e w1 ⟨rfl, hb1⟩
  have HM1 := Lib.hid (HM0.out.below hb1 HM0.out.lt)
  have HB1 := Lib.hid (HB0.out.trans (hb1.mono HB0.out.size))
  clear hb1 HB0 HFE hl0
  go_wp2_with (first
    | (refine wp_store_gen (B := W.heap.size) (w0 := W) HB1.out (Nat.le_refl _) HM1.out (ltC f) Tlt (.tmp 2) (.tmp 11) rfl rfl rfl rfl SZ.out HLE.out ONE.out ?_
       intro W2 hm2 hb2 hsz2 ho2
       have HM2 := Lib.hid hm2
       have HB2 := Lib.hid hb2
       clear hm2 hb2 hsz2 ho2)
    | fail)
  refine (HAW.out _).mono ?_
  rintro e w3 ⟨rfl, hb3⟩
  have HM3 := Lib.hid (HM2.out.below hb3 HM2.out.lt)
  have HB3 := Lib.hid (HB2.out.trans (hb3.mono HB2.out.size))
  have hl3 := ld_lt_at HM3.out HIDF.out
  have hch := check_any f w3 HIDF.out (ps.take 10) (hs.take 10) (by rw [HFP.out]; exact HPS.out.below HB3.out) (by rw [HFH.out]; exact HHS.out.below HB3.out) (by rw [List.length_take]; omega) (by rw [List.length_take]; omega) (by have := HTL.out; omega)
  obtain ⟨c, hcc⟩ : ∃ c, c = chkL f (ps.take 10) (hs.take 10) := ⟨_, rfl⟩
  rw [← hcc] at hch
  have HCH := Lib.hid hch
  have HCC := Lib.hid hcc
  have HPS3 := Lib.hid (HPS.out.below HB3.out)
  have HHS3 := Lib.hid (HHS.out.below HB3.out)
  clear hb3 hch hcc HM2 HB2 HPS HHS
  by_cases hc0 : c = 0
  case neg =>
    have hne : ((c : Int) != 0) = true := by
      rw [bne_iff_ne]
      omega
    clear hc0
    go_wp2_with fail
    refine HCH.out.mono ?_
    rintro e w4 ⟨rfl, hb4⟩
    have HB4 := Lib.hid (HB3.out.trans (hb4.mono HB3.out.size))
    clear hb4
    go_wp2_with fail
    refine (HAW.out _).mono ?_
    rintro e w5 ⟨rfl, hb5⟩
    have HB5 := Lib.hid (HB4.out.trans (hb5.mono HB4.out.size))
    clear hb5
    go_wp2_with fail
    go_ret
    exact ⟨rfl, HB5.out⟩
  case pos =>
    subst hc0
    go_wp2_with fail
    refine HCH.out.mono ?_
    rintro e w4 ⟨rfl, hb4⟩
    have HM4 := Lib.hid (HM3.out.below hb4 HM3.out.lt)
    have HB4 := Lib.hid (HB3.out.trans (hb4.mono HB3.out.size))
    have hl4 := ld_lt_at HM4.out HIDF.out
    have HPS4 := Lib.hid (HPS3.out.below hb4)
    have HHS4 := Lib.hid (HHS3.out.below hb4)
    have HF := Lib.hid (chk_facts HCC.out.symm)
    clear hb4 HM3 HB3 HCH hl3 HPS3 HHS3
    have HBY := Lib.hid (bytes_any f (ps.take 10) (hs.take 10) w4 HIDF.out (by rw [HFP.out]; exact HPS4.out) (by rw [HFH.out]; exact HHS4.out) (by rw [List.length_take]; omega) (by rw [List.length_take]; omega) HTL.out (fun k hk => by
      have := HF.out.kind
      have := HF.out.fr
      have := HF.out.to
      have := HF.out.seq
      have hw : 0 ≤ f.what ∧ f.what ≤ 3 := by
        rcases Bool.eq_false_or_eq_true (whatK f.kind) with h | h
        · have := HF.out.what h
          omega
        · rw [HF.out.nowhat h]
          omega
      simp only [List.mem_cons, List.mem_nil_iff, or_false] at hk
      omega) (fun k hk => by have := HF.out.adr k (by simp [hk]); omega) (fun k hk => by have := HF.out.adr k (by simp [hk]); omega))
    have HPC := Lib.hid (fun n hn w => parse_cut HF.out HIDF.out n hn w)
    have HPM := Lib.hid (fun w => parse_more HF.out HIDF.out w)
    have hlen := length_bytes HF.out HIDF.out
    obtain ⟨s, hs⟩ : ∃ s, s = bytesL f (ps.take 10) (hs.take 10) := ⟨_, rfl⟩
    rw [← hs] at HBY HPC HPM hlen
    have hne0 : ¬ (s.length : Int) = 0 := by omega
    obtain ⟨N, hN⟩ : ∃ N, N = (wrap64 (n.tmod (s.length : Int) + (s.length : Int))).tmod (s.length : Int) := ⟨_, rfl⟩
    have hN2 : 0 ≤ N ∧ N < (s.length : Int) := by
      have h1 := Int.tmod_lt_of_pos n (b := (s.length : Int)) (by omega)
      have h2 := Int.lt_tmod_of_pos n (b := (s.length : Int)) (by omega)
      have h3 : wrap64 (n.tmod (s.length : Int) + (s.length : Int)) = n.tmod (s.length : Int) + (s.length : Int) := by
        unfold wrap64
        omega
      rw [hN, h3]
      exact ⟨Int.tmod_nonneg _ (by omega), Int.tmod_lt_of_pos _ (by omega)⟩
    obtain ⟨N', rfl⟩ : ∃ k : Nat, N = (k : Int) := ⟨N.toNat, by omega⟩
    have hNl : N' < s.length := by omega
    have hN3 : (wrap64 (n.tmod (s.length : Int) + (s.length : Int))).tmod (s.length : Int) = (N' : Int) := hN.symm
    clear hs hN hN2
    go_wp2_with fail
    refine HBY.out.mono ?_
    rintro e w5 ⟨rfl, hb5⟩
    have HB5 := Lib.hid (HB4.out.trans (hb5.mono HB4.out.size))
    clear hb5 HBY hl4
    go_wp2_with fail
    rw [extract_str, List.drop_zero]
    have HC6 := Lib.hid (HPC.out N' hNl w5)
    by_cases h2 : N' < 2
    all_goals
      have hc6 := HC6.out
      first
        | rw [if_pos h2] at hc6
        | rw [if_neg h2] at hc6
      clear HC6
      refine hc6.mono ?_
      rintro e w6 ⟨rfl, hb6⟩
      have hB6 := HB5.out.trans (hb6.mono HB5.out.size)
      have HA6 := Lib.hid (zA_mem w6)
      have hA6 := belowSelf w6 (.cells zA Tlt)
      have HB6 := Lib.hid (hB6.trans (hA6.mono hB6.size))
      have hle6 : W.heap.size ≤ w6.heap.size := hB6.size
      have SZZ := Lib.hid (sz_lt zeroL rfl)
      have ONEZ := Lib.hid (one_ltC zeroL rfl rfl)
      clear hb6 hB6 hA6 hc6
      go_wp2_with (first
        | (refine wp_store_gen (B := W.heap.size) (w0 := W) HB6.out hle6 HA6.out (ltC zeroL) Tlt (.tmp 6) (.tmp 37) rfl rfl rfl rfl SZZ.out rfl ONEZ.out ?_
           intro W7 hm7 hb7 _ _
           have HB7 := Lib.hid hb7
           clear hm7 hb7)
        | fail)
      have hpm := HPM.out W7
      rw [show tx (s ++ [0]) = Value.string (str s ++ ⟨#[0]⟩) from APPZ s] at hpm
      refine hpm.mono ?_
      rintro e w8 ⟨rfl, hb8⟩
      have hB8 := HB7.out.trans (hb8.mono HB7.out.size)
      have HA8 := Lib.hid (zA_mem w8)
      have hA8 := belowSelf w8 (.cells zA Tlt)
      have HB8 := Lib.hid (hB8.trans (hA8.mono hB8.size))
      have hle8 : W.heap.size ≤ w8.heap.size := hB8.size
      clear hb8 hB8 hA8 hpm
      have hlt2 : decide ((N' : Int) < 2) = decide (N' < 2) := by
        rw [decide_eq_decide]
        omega
      go_wp2_with (first
        | (refine wp_store_gen (B := W.heap.size) (w0 := W) HB8.out hle8 HA8.out (ltC zeroL) Tlt (.tmp 8) (.tmp 43) rfl rfl rfl rfl SZZ.out rfl ONEZ.out ?_
           intro W9 hm9 hb9 _ _
           have HB9 := Lib.hid hb9
           clear hm9 hb9)
        | fail)
      go_ret
      exact ⟨rfl, HB9.out⟩
end Go.Proofs.Ytbkknhlagohhhaa
