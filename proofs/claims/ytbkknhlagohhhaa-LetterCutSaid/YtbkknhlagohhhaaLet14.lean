/-
  letter.Parse, whole.
-/
import Derived.Test.YtbkknhlagohhhaaLet8
import Derived.Test.YtbkknhlagohhhaaLet13
namespace Go.Proofs.Ytbkknhlagohhhaa
open Go.RowKit Crv

def clS (s : BSt) : BSt := if s.1 = [] then s else failS s 2
/-- What Parse answers: the letter, its lists, the error. -/
def parL (s : List UInt8) : LV × (List Int × List Int) × Int :=
  if 1024 < s.length then (zeroL, ([], []), 5)
  else if (cutP s).2 = false then (zeroL, ([], []), 2)
  else if (clS (decW ((cutP s).1, 0)).2.2).2 ≠ 0 then (zeroL, ([], []), (clS (decW ((cutP s).1, 0)).2.2).2)
  else if chkL (decW ((cutP s).1, 0)).1 (decW ((cutP s).1, 0)).2.1.1 (decW ((cutP s).1, 0)).2.1.2 ≠ 0 then (zeroL, ([], []), (chkL (decW ((cutP s).1, 0)).1 (decW ((cutP s).1, 0)).2.1.1 (decW ((cutP s).1, 0)).2.1.2 : Int))
  else ((decW ((cutP s).1, 0)).1, (decW ((cutP s).1, 0)).2.1, 0)
theorem length_adrS (s : BSt) : (adrS s).1.length ≤ 8 := by
  unfold adrS
  rw [length_adrN]
  exact intS_le s 8
theorem length_strS (s : BSt) (n : Nat) : (strS s (n : Int)).2.length ≤ n := by
  have h := intS_le s n
  unfold strS bytesS
  split
  · exact Nat.zero_le _
  · show (List.take _ _).length ≤ n
    rw [List.length_take]
    have h2 : ((intS s (n : Int)).2 : Int).toNat = (intS s (n : Int)).2 := by omega
    rw [h2]
    omega
theorem decW_id (s : BSt) : (decW s).1.id.length = 32 := by
  show (decId _ _).1.length = 32
  unfold decId
  split
  · exact length_nameOf _
  · rfl
theorem decW_text (s : BSt) : (decW s).1.text.length ≤ 512 := by
  show (decText _ _).1.length ≤ 512
  unfold decText
  split
  · exact length_strS _ 512
  · exact Nat.zero_le _
theorem decLists_le (k : Int) (t : BSt) : (decLists k t).1.1.length ≤ 8 ∧ (decLists k t).1.2.length ≤ 8 := by
  unfold decLists
  split
  · exact ⟨length_adrS t, length_adrS (adrS t).2⟩
  · exact ⟨Nat.zero_le _, Nat.zero_le _⟩
theorem decW_le (s : BSt) : (decW s).2.1.1.length ≤ 8 ∧ (decW s).2.1.2.length ≤ 8 := decLists_le _ _
theorem Owns.one {w : World} {base : Nat} {e : TypeId} {v : Value} {xs : List Value} (h : Owns w base e v xs) : v.oneCell' = true := by
  obtain ⟨a, c, rfl, _⟩ := h.form
  rfl
theorem Owns.grown_base {w w' : World} {base k : Nat} {e : TypeId} {v : Value} {xs : List Value} (h : Owns w base e v xs) (hg : w.grownBy w' (some k)) (hk : k < base) : Owns w' base e v xs :=
  h.of_below fun b hb => hg.block b (h.lt b hb).1 (fun e => by injection e with e; have := (h.lt b hb).2; omega)
set_option maxHeartbeats 2000000 in
set_option maxRecDepth 100000 in
theorem parse_big (s : List UInt8) (W : World) (hs : 1024 < s.length) : Calls Try.prog 19 #[tx s] W fun e w' => e = .returned (.tuple #[.agg (ltC zeroL).toArray, .int .i64 5]) ∧ Below W.heap.size W w' := by
  have hM : Mem (W.alloc (.cells zA Tlt)) W.heap.size Tlt (ltC zeroL) := by
    rw [zero_cells]
    exact Mem.new W Tlt (ltC zeroL)
  have HM := Lib.hid hM
  have HB := Lib.hid (belowSelf W (.cells zA Tlt))
  have hls : (1024 : Int) < (s.length : Int) := by omega
  have SZ := Lib.hid (sz_lt zeroL rfl)
  have ONE := Lib.hid (one_ltC zeroL rfl rfl)
  clear hM
  go_enter Try.func19, Try.ntmps19
  go_wp2_with (first
    | (refine wp_build0L (build0L _) rfl rfl ?_)
    | (refine wp_store_gen (B := W.heap.size) (w0 := W) HB.out (Nat.le_refl _) HM.out (ltC zeroL) Tlt (.tmp 2) (.tmp 13) rfl rfl rfl rfl SZ.out rfl ONE.out ?_
       intro W5 hm5 hb5 hsz5 ho5
       have HM5 := Lib.hid hm5
       have HB5 := Lib.hid hb5
       clear hm5 hb5 hsz5 ho5)
    | fail)
  exact bodyPost_ret (resultsCellTmpL HM5.out rfl _ _ rfl Try.underlying26 rfl SZ.out) rfl ⟨rfl, HB5.out⟩
def parAns (c : Int) (k : Nat) (L : LV) : Value := if c ≠ 0 then .tuple #[.agg (ltC zeroL).toArray, .int .i64 c] else if k ≠ 0 then .tuple #[.agg (ltC zeroL).toArray, .int .i64 (k : Int)] else .tuple #[.agg (ltC L).toArray, .int .i64 0]
theorem parAns_c {c : Int} {k : Nat} {L : LV} (h : ¬c = 0) : Value.tuple #[.agg (ltC zeroL).toArray, .int .i64 c] = parAns c k L := by
  unfold parAns
  rw [if_pos h]
theorem parAns_k {k : Nat} {L : LV} (h : ¬k = 0) : Value.tuple #[.agg (ltC zeroL).toArray, .int .i64 (k : Int)] = parAns 0 k L := by
  unfold parAns
  rw [if_neg (by simp), if_pos h]
theorem parAns_ok (L : LV) : Value.tuple #[.agg (ltC L).toArray, .int .i64 0] = parAns 0 0 L := by
  unfold parAns
  rw [if_neg (by simp), if_neg (by simp)]
theorem chkL_lists (l : LV) (a b : Value) (ps hs : List Int) : chkL { l with pv := a, hv := b } ps hs = chkL l ps hs := rfl
set_option maxHeartbeats 4000000 in
set_option maxRecDepth 100000 in
theorem parse_read (s r : List UInt8) (W : World) (hs : s.length ≤ 1024) (hc : cutP s = (r, true)) (D : LV × (List Int × List Int) × BSt) (hd : D = decW (r, 0)) (c : Int) (hcl : c = (clS D.2.2).2) (k : Nat) (hk : k = chkL D.1 D.2.1.1 D.2.1.2) :
    Calls Try.prog 19 #[tx s] W fun e w' => ∃ pv hv, e = .returned (parAns c k { D.1 with pv := pv, hv := hv }) ∧ Owns w' W.heap.size Tii pv (D.2.1.1.map fun k => Value.int .i64 k) ∧ Owns w' W.heap.size Tii hv (D.2.1.2.map fun k => Value.int .i64 k) ∧ Below W.heap.size W w' := by
  have HC := Lib.hid (fun w => cutPre_any s w (by omega))
  rw [hc] at HC
  have hM : Mem (W.alloc (.cells zA Tlt)) W.heap.size Tlt (ltC zeroL) := by
    rw [zero_cells]
    exact Mem.new W Tlt (ltC zeroL)
  have HM := Lib.hid hM
  have hB := belowSelf W (.cells zA Tlt)
  have HB := Lib.hid hB
  have HOP := Lib.hid (open_any r (W.alloc (.cells zA Tlt)))
  have hls : ¬ (1024 : Int) < (s.length : Int) := by omega
  have SZ0 := Lib.hid (sz_lt zeroL rfl)
  have ONE0 := Lib.hid (one_ltC zeroL rfl rfl)
  have HDL := Lib.hid (show D.1.id.length = 32 by rw [hd]; exact decW_id _)
  have HTL := Lib.hid (show D.1.text.length ≤ 512 by rw [hd]; exact decW_text _)
  have HPL := Lib.hid (show D.2.1.1.length ≤ 8 ∧ D.2.1.2.length ≤ 8 by rw [hd]; exact decW_le _)
  have HD := Lib.hid hd
  have HCC := Lib.hid hcl
  have HKK := Lib.hid hk
  obtain ⟨gb, hgb⟩ : ∃ gb, gb = (W.alloc (.cells zA Tlt)).heap.size := ⟨_, rfl⟩
  have hgb1 : gb = W.heap.size + 1 := by rw [hgb]; simp
  rw [← hgb] at HOP
  have HGB := Lib.hid hgb1
  clear hM hB hc hd hcl hk hgb hgb1
  go_enter Try.func19, Try.ntmps19
  go_wp2_with fail
  refine (HC.out _).mono ?_
  rintro e w ⟨rfl, rfl⟩
  go_wp2_with fail
  refine HOP.out.mono ?_
  rintro e w1 ⟨rfl, hbm1, hb1, _⟩
  have HB1 := Lib.hid (HB.out.trans (hb1.mono (by have := HGB.out; omega)))
  have HM1 := Lib.hid (Mem.below HM.out hb1 (by have := HGB.out; omega))
  have HDEC := Lib.hid (decoded_any w1 gb (r, 0) hbm1)
  rw [← HD.out] at HDEC
  have hgw1 : gb < w1.heap.size := Mem.lt hbm1
  have HGW := Lib.hid hgw1
  clear hbm1 hb1 hgw1
  go_wp2_with fail
  refine HDEC.out.mono ?_
  rintro e w2 ⟨pv, hv, rfl, hpv, hhv, hbm2, hg2⟩
  obtain ⟨L, hL⟩ : ∃ L : LV, L = { D.1 with pv := pv, hv := hv } := ⟨_, rfl⟩
  rw [← hL]
  have hLid : L.id.length = 32 := by rw [hL]; exact HDL.out
  have SZ := Lib.hid (sz_lt L hLid)
  have ONE := Lib.hid (one_ltC L (by rw [hL]; exact Owns.one hpv) (by rw [hL]; exact Owns.one hhv))
  have HLE := Lib.hid (show (ltC zeroL).length = (ltC L).length by rw [length_ltC zeroL rfl, length_ltC L hLid])
  have HLI := Lib.hid hLid
  have HL := Lib.hid hL
  have hne : W.heap.size ≠ gb := by have := HGB.out; omega
  have HM2 := Lib.hid (Mem.grown HM1.out hg2 (fun e => hne (by injection e)))
  have hB2 : Below W.heap.size W w2 := HB1.out.trans ⟨hg2.os, hg2.tape, hg2.output, hg2.size, fun k hk => hg2.block k (by have := HB1.out.size; omega) (fun e => by injection e with e; have := HGB.out; omega)⟩
  have hA2 := belowSelf w2 (.cells zA Tlt)
  have hM3 : Mem (w2.alloc (.cells zA Tlt)) w2.heap.size Tlt (ltC zeroL) := by
    rw [zero_cells]
    exact Mem.new w2 Tlt (ltC zeroL)
  have HM3 := Lib.hid hM3
  have HB3 := Lib.hid (hB2.trans (hA2.mono hB2.size))
  have HM2a := Lib.hid (HM2.out.below hA2 HM2.out.lt)
  have HBM2 := Lib.hid (show BM (w2.alloc (.cells zA Tlt)) gb D.2.2 from BM.below hbm2 hA2)
  have HPVL := Lib.hid hpv.lt
  have HHVL := Lib.hid hhv.lt
  have HPV := Lib.hid (hpv.below hA2)
  have HHV := Lib.hid (hhv.below hA2)
  have hlt2 : W.heap.size < w2.heap.size := HM2.out.lt
  have hlb2 : gb < w2.heap.size := Mem.lt hbm2
  have hw12 := hg2.size
  clear hbm2 hg2 hB2 hA2 hM3 hpv hhv hL hLid
  go_wp2_with (first
    | (refine wp_store_gen (B := W.heap.size) (w0 := W) HB3.out (Nat.le_of_lt hlt2) HM3.out (ltC L) Tlt (.tmp 7) (.tmp 25) rfl rfl rfl rfl SZ.out HLE.out ONE.out ?_
       intro W4 hm4 hb4 hsz4 ho4
       have HM4 := Lib.hid hm4
       have HB4 := Lib.hid hb4
       have HM4a := Lib.hid (show Mem W4 W.heap.size Tlt (ltC zeroL) from (ho4 _ (by omega)).trans HM2a.out)
       have HBM4 := Lib.hid (show BM W4 gb D.2.2 from (ho4 _ (by omega)).trans HBM2.out)
       have HPV4 := Lib.hid (show Owns W4 w1.heap.size Tii pv _ from HPV.out.of_below fun b hb => ho4 b (by have := HPVL.out b hb; omega))
       have HHV4 := Lib.hid (show Owns W4 w1.heap.size Tii hv _ from HHV.out.of_below fun b hb => ho4 b (by have := HHVL.out b hb; omega))
       have HCL := Lib.hid (close_any W4 gb D.2.2 HBM4.out)
       clear hm4 hb4 hsz4 ho4)
    | fail)
  refine HCL.out.mono ?_
  rintro e w5 ⟨rfl, hbm5, hg5⟩
  rw [show (if D.2.2.1 = [] then D.2.2 else failS D.2.2 2) = clS D.2.2 from rfl, ← HCC.out]
  have hgw : gb < w1.heap.size := HGW.out
  have HPV5 := Lib.hid (Owns.grown_base HPV4.out hg5 hgw)
  have HHV5 := Lib.hid (Owns.grown_base HHV4.out hg5 hgw)
  have HM5 := Lib.hid (Mem.grown HM4.out hg5 (fun e => by injection e with e; omega))
  have HM5a := Lib.hid (Mem.grown HM4a.out hg5 (fun e => hne (by injection e)))
  have HB5 := Lib.hid (HB4.out.trans (⟨hg5.os, hg5.tape, hg5.output, hg5.size, fun k hk => hg5.block k (by have := HB4.out.size; omega) (fun e => by injection e with e; have := HGB.out; omega)⟩ : Below W.heap.size W4 w5))
  have HWB := Lib.hid (show W.heap.size ≤ w1.heap.size from HB1.out.size)
  have HCH := Lib.hid (check_any L w5 HLI.out D.2.1.1 D.2.1.2 (by rw [HL.out]; exact owns_zsr HPV5.out) (by rw [HL.out]; exact owns_zsr HHV5.out) (by have := HPL.out.1; omega) (by have := HPL.out.2; omega) (by rw [HL.out]; have := HTL.out; simp only; omega))
  rw [show chkL L D.2.1.1 D.2.1.2 = k by rw [HL.out, HKK.out]; rfl] at HCH
  clear hbm5 hg5 HCL
  by_cases hc0 : c = 0
  · subst hc0
    go_wp2_with (first
      | (refine wp_load_mem HM5.out Tlt (.tmp 7) _ rfl rfl rfl Try.underlying26 rfl SZ.out ?_)
      | fail)
    refine HCH.out.mono ?_
    rintro e w6 ⟨rfl, hb6⟩
    have HM6 := Lib.hid (HM5.out.below hb6 HM5.out.lt)
    have HM6a := Lib.hid (HM5a.out.below hb6 HM5a.out.lt)
    have HB6 := Lib.hid (HB5.out.trans (hb6.mono HB5.out.size))
    have HPV6 := Lib.hid (HPV5.out.below hb6)
    have HHV6 := Lib.hid (HHV5.out.below hb6)
    clear hb6 HCH
    by_cases hk0 : k = 0
    · subst hk0
      go_wp2_with (first
        | (refine wp_load_mem HM6.out Tlt (.tmp 7) _ rfl rfl rfl Try.underlying26 rfl SZ.out ?_)
        | (refine wp_store_gen (B := W.heap.size) (w0 := W) HB6.out (Nat.le_refl _) HM6a.out (ltC L) Tlt (.tmp 2) (.tmp 38) rfl rfl rfl rfl SZ.out HLE.out ONE.out ?_
           intro W9 hm9 hb9 _ ho9
           have HM9 := Lib.hid hm9
           have HB9 := Lib.hid hb9
           have HPV9 := Lib.hid (HPV6.out.of_below fun b hb => ho9 b (by have := (HPV6.out.lt b hb).2; have := HGB.out; omega))
           have HHV9 := Lib.hid (HHV6.out.of_below fun b hb => ho9 b (by have := (HHV6.out.lt b hb).2; have := HGB.out; omega))
           clear hm9 hb9 ho9)
        | fail)
      exact bodyPost_ret (resultsCellTmpL HM9.out rfl _ _ rfl Try.underlying26 rfl SZ.out) rfl ⟨pv, hv, by rw [← HL.out, ← parAns_ok L]; rfl, Owns.rebase HWB.out HPV9.out, Owns.rebase HWB.out HHV9.out, HB9.out⟩
    · have hk1 : ¬(k : Int) = 0 := by omega
      go_wp2_with (first
        | (refine wp_build0L (build0L _) rfl rfl ?_)
        | (refine wp_store_gen (B := W.heap.size) (w0 := W) HB6.out (Nat.le_refl _) HM6a.out (ltC zeroL) Tlt (.tmp 2) (.tmp 36) rfl rfl rfl rfl SZ0.out rfl ONE0.out ?_
           intro W9 hm9 hb9 _ ho9
           have HM9 := Lib.hid hm9
           have HB9 := Lib.hid hb9
           have HPV9 := Lib.hid (HPV6.out.of_below fun b hb => ho9 b (by have := (HPV6.out.lt b hb).2; have := HGB.out; omega))
           have HHV9 := Lib.hid (HHV6.out.of_below fun b hb => ho9 b (by have := (HHV6.out.lt b hb).2; have := HGB.out; omega))
           clear hm9 hb9 ho9)
        | fail)
      exact bodyPost_ret (resultsCellTmpL HM9.out rfl _ _ rfl Try.underlying26 rfl SZ0.out) rfl ⟨pv, hv, by rw [← parAns_k hk0]; rfl, Owns.rebase HWB.out HPV9.out, Owns.rebase HWB.out HHV9.out, HB9.out⟩
  · clear HCH
    go_wp2_with (first
      | (refine wp_build0L (build0L _) rfl rfl ?_)
      | (refine wp_store_gen (B := W.heap.size) (w0 := W) HB5.out (Nat.le_refl _) HM5a.out (ltC zeroL) Tlt (.tmp 2) (.tmp 30) rfl rfl rfl rfl SZ0.out rfl ONE0.out ?_
         intro W9 hm9 hb9 _ ho9
         have HM9 := Lib.hid hm9
         have HB9 := Lib.hid hb9
         have HPV9 := Lib.hid (HPV5.out.of_below fun b hb => ho9 b (by have := (HPV5.out.lt b hb).2; have := HGB.out; omega))
         have HHV9 := Lib.hid (HHV5.out.of_below fun b hb => ho9 b (by have := (HHV5.out.lt b hb).2; have := HGB.out; omega))
         clear hm9 hb9 ho9)
      | fail)
    exact bodyPost_ret (resultsCellTmpL HM9.out rfl _ _ rfl Try.underlying26 rfl SZ0.out) rfl ⟨pv, hv, by rw [← parAns_c hc0]; rfl, Owns.rebase HWB.out HPV9.out, Owns.rebase HWB.out HHV9.out, HB9.out⟩
end Go.Proofs.Ytbkknhlagohhhaa
