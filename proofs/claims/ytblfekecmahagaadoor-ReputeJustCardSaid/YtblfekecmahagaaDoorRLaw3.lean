/-
  ReputeJust: the walk.
-/
import Derived.Test.YtblfekecmahagaaDoorRMap
namespace Go.Proofs.YtblfekecmahagaaDoor
open Go.RowKit Go.Maps Crv

attribute [local go_sem ↓] ld_pf
set_option maxHeartbeats 4000000 in
set_option maxRecDepth 100000 in
theorem reputeJust_walk (v : Value) (acts : List AR) (W : World) (hc : Consts W) (hA : ActsR W v acts) : Calls Tryd.prog 4 #[v] W fun e w' => e = .returned (.bool true) ∧ Below W.heap.size W w' := by
  obtain ⟨aa, ac, rfl, -⟩ := id hA
  rw [List.length_map] at hA ⊢
  have HA := Lib.hid hA
  have HC := Lib.hid hc
  obtain ⟨N, hN⟩ : ∃ N, N = acts.length := ⟨_, rfl⟩
  have HN := Lib.hid hN
  rw [← hN] at HA ⊢
  clear hA hN
  have HAW := Lib.hid (awake23_any W hc)
  have hmm := @run_makeMap Tryd.prog
  clear hc
  go_enter Tryd.func4, Tryd.ntmps4
  go_wp2_with fail
  refine HAW.out.mono ?_
  rintro e w1 ⟨rfl, hb1⟩
  have HMK := Lib.hid (Lb.make hb1)
  clear hb1 HAW
  go_wp2_with fail
  refine HMK.out.mono ?_
  rintro e w2 ⟨rfl, h2⟩
  obtain ⟨k, hk⟩ : ∃ k, k = w1.heap.size + 2 := ⟨_, rfl⟩
  obtain ⟨mb, hmb⟩ : ∃ k, k = w1.heap.size := ⟨_, rfl⟩
  obtain ⟨bb, hbb⟩ : ∃ k, k = w1.heap.size + 1 := ⟨_, rfl⟩
  have H2 := Lib.hid (show Lb W k mb bb [] [] w2 from by rw [hk, hmb, hbb]; exact h2)
  rw [← hk]
  clear h2 hk hmb hbb HMK
  have hml := MpS.lt H2.out.v.t
  have hbl := MpS.lt H2.out.v.u
  have HJ0 := Lib.hid (show Jst W k mb bb w2.heap.size [] [] [] (w2.alloc (.map #[] 0)) from ⟨H2.out.on (belowSelf w2 _), MpS.made w2, H2.out.bel.size, by omega, by omega⟩)
  have hmm := @run_makeMap Tryd.prog
  clear hml hbl H2
  go_wp2_with fail
  obtain ⟨lb, hlb⟩ : ∃ lb, lb = w2.heap.size := ⟨_, rfl⟩
  rw [← hlb] at HJ0 ⊢
  clear hlb
  go_loopw [4, 6] (fun t s wr => ∃ (i : Nat) (nw : Int), i ≤ N ∧ i ≤ 60 ∧ t = iv nw ∧ s = .int .i64 i ∧ Hid (∃ M B L, JInv M B L nw i ∧ Jst W k mb bb lb M B L wr)) (fun _ s _ => 60 - (intOf s).toNat)
  case atStart => exact ⟨0, 0, by omega, by omega, rfl, rfl, Lib.hid ⟨[], [], [], JInv.nil, HJ0.out⟩⟩
  case round =>
    obtain ⟨i, nw, hi, hi2, rfl, rfl, HX⟩ := hrel
    obtain ⟨M, B, L, hV, hJ⟩ := HX.out
    have HV := Lib.hid hV
    have HJ := Lib.hid hJ
    clear hV hJ HX HJ0 hmm
    by_cases hlt : i < N ∧ i < 60
    · have hd1 : decide ((i : Int) < (N : Int)) = true := by simp; omega
      have hd2 : decide ((i : Int) < 60) = true := by simp; omega
      have hd3 : (i : Int) < (N : Int) := by omega
      have hd4 : (i : Int) < 60 := by omega
      have hil : i < acts.length := by rw [← HN.out]; exact hlt.1
      obtain ⟨g, off, rfl, k0, k1, k2, k3, k4⟩ := HA.out.cells HJ.out.b.bel hil
      obtain ⟨act, hact⟩ : ∃ act, act = acts[i] := ⟨_, rfl⟩
      rw [← hact] at k0 k1 k2 k3 k4
      obtain ⟨kd, n0, by_, text, real⟩ := act
      simp only at k0 k1 k2 k3 k4
      have mn := i64_mask n0 3 (by omega)
      have md := i64_mask by_ 4 (by omega)
      simp only [Nat.reducePow, Nat.reduceSub, Int.cast_ofNat_Int] at mn md
      obtain ⟨n, hn, hnin⟩ : ∃ c : Int, n0 % 8 = c ∧ 0 ≤ c ∧ c < 8 := ⟨_, rfl, by omega, by omega⟩
      obtain ⟨d, hd, hdin⟩ : ∃ c : Int, by_ % 16 = c ∧ 0 ≤ c ∧ c ≤ 15 := ⟨_, rfl, by omega, by omega⟩
      rw [hn] at mn
      rw [hd] at md
      obtain ⟨now, hnow⟩ : ∃ t, nw + d = t := ⟨_, rfl⟩
      obtain ⟨wn, wn'⟩ := w64 hnow (by have := HV.out.n; omega)
      have HV1 := Lib.hid (show JInv M B L now (i + 1) from hnow ▸ HV.out.time hdin)
      have HLN := Lib.hid HV.out.l
      have HNI := Lib.hid (show In64 n from in64_of (by omega))
      have HNW := Lib.hid (show 0 ≤ now ∧ now ≤ 1000 from by have := HV1.out.n; omega)
      have HM := Lib.hid (Mem.new wr Tar [iv kd, iv n0, iv by_, tx text, tx real])
      have HJ1 := Lib.hid (HJ.out.on (belowSelf wr (.cells #[iv kd, iv n0, iv by_, tx text, tx real] Tar)))
      obtain ⟨ba, hba⟩ : ∃ ba, ba = wr.heap.size := ⟨_, rfl⟩
      have HBA := Lib.hid hba
      have HBG := Lib.hid (show W.heap.size ≤ ba from hba ▸ HJ.out.b.bel.size)
      clear hact hil hn hd hdin hnow HJ HV hba
      go_upto_region 10 with fail
      have hgr := HBA.out
      rw [← hgr] at HM ⊢
      clear hgr
      obtain ⟨wa, hwa⟩ : ∃ wa, wa = wr.alloc (.cells #[iv kd, iv n0, iv by_, tx text, tx real] Tar) := ⟨_, rfl⟩
      rw [← hwa] at HM HJ1
      change Code.wp _ _ _ _ (wr.alloc (.cells #[iv kd, iv n0, iv by_, tx text, tx real] Tar))
      rw [← hwa]
      clear hwa k0 k1 k2 k3 k4 HBA
      have e0 : wa.cell? ⟨ba, 0, none⟩ = some (iv kd) := HM.out.cell 0
      have e1 : wa.cell? ⟨ba, 1, none⟩ = some (iv n0) := HM.out.cell 1
      have e2 : wa.cell? ⟨ba, 2, none⟩ = some (iv by_) := HM.out.cell 2
      have e3 : wa.cell? ⟨ba, 3, none⟩ = some (tx text) := HM.out.cell 3
      have e4 : wa.cell? ⟨ba, 4, none⟩ = some (tx real) := HM.out.cell 4
      by_cases hk3 : kd = 3
      · by_cases hn0 : n ≠ 0
        · subst hk3
          have b2 : (n != 0) = true := by simpa using hn0
          obtain ⟨P, hP⟩ : ∃ P, P = pfOf (3, n0, by_, text, real) := ⟨_, rfl⟩
          obtain ⟨pV, hpV⟩ : ∃ pV, pV = (.agg (pfC P).toArray : Value) := ⟨_, rfl⟩
          obtain ⟨rV, hrV⟩ : ∃ rV, rV = (.agg (rpC P).toArray : Value) := ⟨_, rfl⟩
          have HPR := Lib.hid (fun w (h : Consts w) => show Calls Tryd.prog 14 #[.agg (arC (3, n0, by_, text, real)).toArray] w fun e w' => e = .returned (.tuple #[pV, rV]) ∧ Below w.heap.size w w' from by rw [hpV, hrV, hP]; exact proof_any (3, n0, by_, text, real) w h)
          have HP1 := Lib.hid (show P.1 = 1 from by rw [hP]; rfl)
          have HPL := Lib.hid (show P.2.1.length = 32 from by rw [hP]; rfl)
          have HPT := Lib.hid (show P.2.2.length ≤ 1000000 from by rw [hP]; exact (pfOf_ok _).2.2)
          have HPV := Lib.hid hpV
          have HRV := Lib.hid hrV
          have HI := Lib.hid (sz_pf P HPL.out)
          have HI3 := Lib.hid (show (Tryd.prog.info? Trp).map (·.size) = some (rpC P).length from by kernel_rfl)
          have HLL := Lib.hid (show (pfC zeroP).length = (pfC P).length from by rw [len_pfC HPL.out]; rfl)
          have HON := Lib.hid (one_pfC P)
          have HON3 := Lib.hid (show ∀ u ∈ rpC P, u.oneCell' = true from by intro u hu; simp only [rpC, List.mem_cons, List.mem_nil_iff, or_false] at hu; rcases hu with rfl | rfl | rfl <;> rfl)
          have HUB := Lib.hid HJ1.out.b.v.uqb
          have HCW := Lib.hid (HC.out.on HJ1.out.b.bel)
          clear hP hpV hrV
          go_wp2_with fail
          refine (HPR.out wa HCW.out).mono ?_
          rintro e w5 ⟨rfl, hb5⟩
          have HJ5 := Lib.hid (HJ1.out.on hb5)
          clear hb5 e0 e1 e2 e3 e4
          have HZ34 := Lib.hid (show Mem ((w5.alloc (.cells (pfC zeroP).toArray Tpf)).alloc (.cells (rpC (0, [], [])).toArray Trp)) w5.heap.size Tpf (pfC zeroP) from (Mem.new w5 Tpf _).alloc _)
          have HZ3 := Lib.hid (show Mem ((w5.alloc (.cells (pfC zeroP).toArray Tpf)).alloc (.cells (rpC (0, [], [])).toArray Trp)) (w5.heap.size + 1) Trp (rpC (0, [], [])) from Mem.newAt _ Trp _ (by simp))
          have HB34 := Lib.hid (show Below w5.heap.size w5 ((w5.alloc (.cells (pfC zeroP).toArray Tpf)).alloc (.cells (rpC (0, [], [])).toArray Trp)) from belowThen (belowSelf w5 _) (belowSelf _ _))
          go_wp2_with (first
          | (refine wp_store_gen HB34.out (Nat.le_refl _) HZ34.out (pfC P) Tpf (.tmp 9) (.tmp 56) rfl rfl rfl HPV.out HI.out HLL.out HON.out ?_
             intro W4 hm4 hb4 hz4 ho4
             have HM4 := Lib.hid hm4
             have HB4 := Lib.hid hb4
             have HZ4 := Lib.hid (show Mem W4 (w5.heap.size + 1) Trp (rpC (0, [], [])) from (ho4 _ (by omega)).trans HZ3.out)
             clear hm4 hb4 hz4 ho4)
          | (refine wp_store_gen HB4.out (Nat.le_succ _) HZ4.out (rpC P) Trp (.tmp 10) (.tmp 57) rfl rfl rfl HRV.out HI3.out rfl HON3.out ?_
             intro W6 hm6 hb6 hz6 ho6
             have HM6 := Lib.hid (show Mem W6 w5.heap.size Tpf (pfC P) from (ho6 _ (by omega)).trans HM4.out)
             have HR6 := Lib.hid hm6
             have HJ6 := Lib.hid (HJ5.out.on hb6)
             have hld6 := ld_pf_at HM6.out HPL.out
             clear hm6 hb6 hz6 ho6)
          | fail)
          have hbn := HJ6.out.ban HC.out HNI.out P HP1.out HPL.out HPT.out (by have := HLN.out; omega)
          obtain ⟨rz, hrz⟩ : ∃ r : Int, r = (if holdsP P = true then 0 else 10) := ⟨_, rfl⟩
          rw [← hrz] at hbn
          clear hrz
          refine hbn.mono ?_
          rintro e wE ⟨rfl, hJE⟩
          have HJE := Lib.hid hJE
          have HVE := Lib.hid (HV1.out.ban HUB.out hn0 P (holdsP P) (by have := HLN.out; omega))
          clear hJE hld6 b2 hbn
          have HX := Lib.hid (show ∃ Me Be Le, JInv Me Be Le now (i + 1) ∧ Jst W k mb bb lb Me Be Le wE from ⟨_, _, _, HVE.out, HJE.out⟩)
          obtain ⟨Me, Be, Le, hVE, hJE⟩ := HX.out
          have HVX := Lib.hid hVE
          have HJX := Lib.hid hJE
          clear hVE hJE HX HVE HJE
          go_wp2_with fail
          go_loopw [89] (fun s w7 => ∃ j : Nat, j ≤ 8 ∧ s = .int .i64 j ∧ Hid (Jst W k mb bb lb Me Be Le w7)) (fun s _ => 8 - (intOf s).toNat)
          case atStart => exact ⟨0, by omega, rfl, HJX⟩
          case round =>
            obtain ⟨j, hj, rfl, HJY⟩ := hrel
            by_cases hj8 : j < 8
            · have hq1 : decide ((j : Int) < 8) = true := by simp; omega
              have hq2 : (j : Int) < 8 := by omega
              obtain ⟨u, hu⟩ : ∃ u, u = (mkOf Me (j : Int)).2.2 := ⟨_, rfl⟩
              obtain ⟨z, hz⟩ : ∃ z, z = lastOf Le (j : Int) := ⟨_, rfl⟩
              obtain ⟨s2, hs2⟩ : ∃ s, z + 32 = s := ⟨_, rfl⟩
              have huz := HVX.out.u (j : Int)
              rw [← hu, ← hz] at huz
              obtain ⟨ws, ws'⟩ := w64 hs2 (by have := HNW.out; omega)
              have hgt : decide (u > s2) = false := by simp; omega
              have hgt2 : ¬ u > s2 := by omega
              have HU := Lib.hid (fun p : Bw wr => show Calls Tryd.prog 22 #[.pointer (some ⟨k, 0, none⟩), iv (j : Int)] p.W fun e w' => e = .returned (iv u) ∧ Below p.W.heap.size p.W w' from by
                rw [hu]
                exact (until_any (HJY.out.on p.h).b.v (n := (j : Int)) (in64_of (by omega))).mono fun _ _ h => ⟨h.1, h.2 ▸ Below.refl _ _⟩)
              have hlk := fun p : Bw wr => show (Instr.lookup Tmii (.map (some lb)) (iv (j : Int)) false).run Tryd.prog p.W = .ok (iv z) p.W from by
                rw [hz]
                exact (HJY.out.on p.h).l.look (in64_of (by omega))
              have HLK := Lib.hid hlk
              clear hu hz hs2 huz hlk
              go_wp2_with fail
              have hlk := HLK.out
              refine wp_region_bw (by kernel_rfl) (by kernel_rfl) ?_
              repeat (quiet_step ((go_at_call 22; rename_i p; exact Bw.call (HU.out p))))
              refine wpQuiet_nil ?_
              rintro _ ⟨p, rfl⟩
              have HJZ := Lib.hid (HJY.out.on p.h)
              clear hlk HU HLK
              go_wp2_with fail
              go_roundw
              case rel => exact ⟨j + 1, by omega, by go_num, HJZ⟩
              case measure => simp [intOf]; omega
            · have hq1 : decide ((j : Int) < 8) = false := by simp; omega
              have hq2 : ¬ (j : Int) < 8 := by omega
              go_wp2_with fail
              go_roundw
              case rel => exact ⟨i + 1, now, by omega, by omega, rfl, by go_num, Lib.hid ⟨_, _, _, HVX.out, HJY.out⟩⟩
              case measure => simp [intOf]; omega
        · subst hk3
          obtain rfl : n = 0 := by simpa using hn0
          clear hn0
          obtain ⟨P, hP⟩ : ∃ P, P = pfOf (3, n0, by_, text, text) := ⟨_, rfl⟩
          obtain ⟨pV, hpV⟩ : ∃ pV, pV = (.agg (pfC P).toArray : Value) := ⟨_, rfl⟩
          obtain ⟨rV, hrV⟩ : ∃ rV, rV = (.agg (rpC P).toArray : Value) := ⟨_, rfl⟩
          have HPR := Lib.hid (fun w (h : Consts w) => show Calls Tryd.prog 14 #[.agg (arC (3, n0, by_, text, text)).toArray] w fun e w' => e = .returned (.tuple #[pV, rV]) ∧ Below w.heap.size w w' from by rw [hpV, hrV, hP]; exact proof_any (3, n0, by_, text, text) w h)
          have HP1 := Lib.hid (show P.1 = 1 from by rw [hP]; rfl)
          have HPL := Lib.hid (show P.2.1.length = 32 from by rw [hP]; rfl)
          have HPT := Lib.hid (show P.2.2.length ≤ 1000000 from by rw [hP]; exact (pfOf_ok _).2.2)
          have HPV := Lib.hid hpV
          have HRV := Lib.hid hrV
          have HI := Lib.hid (sz_pf P HPL.out)
          have HI3 := Lib.hid (show (Tryd.prog.info? Trp).map (·.size) = some (rpC P).length from by kernel_rfl)
          have HLL := Lib.hid (show (pfC zeroP).length = (pfC P).length from by rw [len_pfC HPL.out]; rfl)
          have HON := Lib.hid (one_pfC P)
          have HON3 := Lib.hid (show ∀ u ∈ rpC P, u.oneCell' = true from by intro u hu; simp only [rpC, List.mem_cons, List.mem_nil_iff, or_false] at hu; rcases hu with rfl | rfl | rfl <;> rfl)
          have HHP := Lib.hid (show holdsP P = false from by rw [hP]; exact holds_same 3 n0 by_ text)
          obtain ⟨wS, hwS⟩ : ∃ wS, wa.setCell ⟨ba, 4, none⟩ (tx text) = wS := ⟨_, rfl⟩
          have HMS := Lib.hid (show Mem wS ba Tar [iv 3, iv n0, iv by_, tx text, tx text] from hwS ▸ HM.out.set 4 (tx text))
          have HJS := Lib.hid (show Jst W k mb bb lb M B L wS from hwS ▸ HJ1.out.cell HM.out 4 (tx text) HBG.out)
          have HCW := Lib.hid (HC.out.on HJS.out.b.bel)
          clear hP hpV hrV
          have hfz : wa.frozen? ⟨ba, 4, none⟩ = false := HM.out.frozen _
          go_upto_region 18 with fail
          clear hfz
          clear e0 e1 e2 e3 e4
          have e0 : wS.cell? ⟨ba, 0, none⟩ = some (iv 3) := HMS.out.cell 0
          have e1 : wS.cell? ⟨ba, 1, none⟩ = some (iv n0) := HMS.out.cell 1
          have e2 : wS.cell? ⟨ba, 2, none⟩ = some (iv by_) := HMS.out.cell 2
          have e3 : wS.cell? ⟨ba, 3, none⟩ = some (tx text) := HMS.out.cell 3
          have e4 : wS.cell? ⟨ba, 4, none⟩ = some (tx text) := HMS.out.cell 4
          go_wp2_with fail
          refine (HPR.out wS HCW.out).mono ?_
          rintro e w5 ⟨rfl, hb5⟩
          have HJ5 := Lib.hid (HJS.out.on hb5)
          clear hb5 e0 e1 e2 e3 e4 hwS
          have HZ34 := Lib.hid (show Mem ((w5.alloc (.cells (pfC zeroP).toArray Tpf)).alloc (.cells (rpC (0, [], [])).toArray Trp)) w5.heap.size Tpf (pfC zeroP) from (Mem.new w5 Tpf _).alloc _)
          have HZ3 := Lib.hid (show Mem ((w5.alloc (.cells (pfC zeroP).toArray Tpf)).alloc (.cells (rpC (0, [], [])).toArray Trp)) (w5.heap.size + 1) Trp (rpC (0, [], [])) from Mem.newAt _ Trp _ (by simp))
          have HB34 := Lib.hid (show Below w5.heap.size w5 ((w5.alloc (.cells (pfC zeroP).toArray Tpf)).alloc (.cells (rpC (0, [], [])).toArray Trp)) from belowThen (belowSelf w5 _) (belowSelf _ _))
          go_wp2_with (first
          | (refine wp_store_gen HB34.out (Nat.le_refl _) HZ34.out (pfC P) Tpf (.tmp 11) (.tmp 72) rfl rfl rfl HPV.out HI.out HLL.out HON.out ?_
             intro W4 hm4 hb4 hz4 ho4
             have HM4 := Lib.hid hm4
             have HB4 := Lib.hid hb4
             have HZ4 := Lib.hid (show Mem W4 (w5.heap.size + 1) Trp (rpC (0, [], [])) from (ho4 _ (by omega)).trans HZ3.out)
             clear hm4 hb4 hz4 ho4)
          | (refine wp_store_gen HB4.out (Nat.le_succ _) HZ4.out (rpC P) Trp (.tmp 12) (.tmp 73) rfl rfl rfl HRV.out HI3.out rfl HON3.out ?_
             intro W6 hm6 hb6 hz6 ho6
             have HM6 := Lib.hid (show Mem W6 w5.heap.size Tpf (pfC P) from (ho6 _ (by omega)).trans HM4.out)
             have HR6 := Lib.hid hm6
             have HJ6 := Lib.hid (HJ5.out.on hb6)
             have hld6 := ld_pf_at HM6.out HPL.out
             clear hm6 hb6 hz6 ho6)
          | fail)
          have hbn := HJ6.out.ban HC.out (n := 0) (in64_of (by omega)) P HP1.out HPL.out HPT.out (by have := HLN.out; omega)
          rw [HHP.out] at hbn
          simp only [Bool.false_eq_true, if_false] at hbn
          refine hbn.mono ?_
          rintro e wE ⟨rfl, hJE⟩
          have HJE := Lib.hid hJE
          have HVE := Lib.hid HV1.out
          clear hJE hld6 hbn
          have HX := Lib.hid (show ∃ Me Be Le, JInv Me Be Le now (i + 1) ∧ Jst W k mb bb lb Me Be Le wE from ⟨_, _, _, HVE.out, HJE.out⟩)
          obtain ⟨Me, Be, Le, hVE, hJE⟩ := HX.out
          have HVX := Lib.hid hVE
          have HJX := Lib.hid hJE
          clear hVE hJE HX HVE HJE
          go_wp2_with fail
          go_loopw [89] (fun s w7 => ∃ j : Nat, j ≤ 8 ∧ s = .int .i64 j ∧ Hid (Jst W k mb bb lb Me Be Le w7)) (fun s _ => 8 - (intOf s).toNat)
          case atStart => exact ⟨0, by omega, rfl, HJX⟩
          case round =>
            obtain ⟨j, hj, rfl, HJY⟩ := hrel
            by_cases hj8 : j < 8
            · have hq1 : decide ((j : Int) < 8) = true := by simp; omega
              have hq2 : (j : Int) < 8 := by omega
              obtain ⟨u, hu⟩ : ∃ u, u = (mkOf Me (j : Int)).2.2 := ⟨_, rfl⟩
              obtain ⟨z, hz⟩ : ∃ z, z = lastOf Le (j : Int) := ⟨_, rfl⟩
              obtain ⟨s2, hs2⟩ : ∃ s, z + 32 = s := ⟨_, rfl⟩
              have huz := HVX.out.u (j : Int)
              rw [← hu, ← hz] at huz
              obtain ⟨ws, ws'⟩ := w64 hs2 (by have := HNW.out; omega)
              have hgt : decide (u > s2) = false := by simp; omega
              have hgt2 : ¬ u > s2 := by omega
              have HU := Lib.hid (fun p : Bw wr => show Calls Tryd.prog 22 #[.pointer (some ⟨k, 0, none⟩), iv (j : Int)] p.W fun e w' => e = .returned (iv u) ∧ Below p.W.heap.size p.W w' from by
                rw [hu]
                exact (until_any (HJY.out.on p.h).b.v (n := (j : Int)) (in64_of (by omega))).mono fun _ _ h => ⟨h.1, h.2 ▸ Below.refl _ _⟩)
              have hlk := fun p : Bw wr => show (Instr.lookup Tmii (.map (some lb)) (iv (j : Int)) false).run Tryd.prog p.W = .ok (iv z) p.W from by
                rw [hz]
                exact (HJY.out.on p.h).l.look (in64_of (by omega))
              have HLK := Lib.hid hlk
              clear hu hz hs2 huz hlk
              go_wp2_with fail
              have hlk := HLK.out
              refine wp_region_bw (by kernel_rfl) (by kernel_rfl) ?_
              repeat (quiet_step ((go_at_call 22; rename_i p; exact Bw.call (HU.out p))))
              refine wpQuiet_nil ?_
              rintro _ ⟨p, rfl⟩
              have HJZ := Lib.hid (HJY.out.on p.h)
              clear hlk HU HLK
              go_wp2_with fail
              go_roundw
              case rel => exact ⟨j + 1, by omega, by go_num, HJZ⟩
              case measure => simp [intOf]; omega
            · have hq1 : decide ((j : Int) < 8) = false := by simp; omega
              have hq2 : ¬ (j : Int) < 8 := by omega
              go_wp2_with fail
              go_roundw
              case rel => exact ⟨i + 1, now, by omega, by omega, rfl, by go_num, Lib.hid ⟨_, _, _, HVX.out, HJY.out⟩⟩
              case measure => simp [intOf]; omega
      · by_cases hk2 : kd = 2
        · have b1 : (kd == 3) = false := by simpa using hk3
          have b3 : (kd == 2) = true := by simpa using hk2
          have HUM := Lib.hid HJ1.out.b.v.uq
          have HUL := Lib.hid (MpS.uniq HJ1.out.l keyedI)
          have HOK := Lib.hid HJ1.out.b.v.ok
          go_wp2_with fail
          refine (HJ1.out.silent HNI.out (by have := HNW.out; omega) (by have := HLN.out; omega)).mono ?_
          rintro e w5 ⟨rfl, h5⟩
          obtain ⟨wE, hrE, hJE⟩ := h5.last HNI.out (in64_of (n := now) (by have := HNW.out; omega)) (by have := HLN.out; omega)
          have HJE := Lib.hid hJE
          have HVE := Lib.hid (HV1.out.sil HUM.out HUL.out HOK.out n (by have := HLN.out; omega) (by have := HLN.out; omega))
          clear h5 hJE e0 e1 e2 e3 e4
          go_wp2_with (first
          | (refine wp_mapRun hrE (.tmp 86) (.tmp 87) (.tmp 88) rfl rfl rfl rfl rfl ?_)
          | fail)
          clear hrE
          have HX := Lib.hid (show ∃ Me Be Le, JInv Me Be Le now (i + 1) ∧ Jst W k mb bb lb Me Be Le wE from ⟨_, _, _, HVE.out, HJE.out⟩)
          obtain ⟨Me, Be, Le, hVE, hJE⟩ := HX.out
          have HVX := Lib.hid hVE
          have HJX := Lib.hid hJE
          clear hVE hJE HX HVE HJE
          go_wp2_with fail
          go_loopw [89] (fun s w7 => ∃ j : Nat, j ≤ 8 ∧ s = .int .i64 j ∧ Hid (Jst W k mb bb lb Me Be Le w7)) (fun s _ => 8 - (intOf s).toNat)
          case atStart => exact ⟨0, by omega, rfl, HJX⟩
          case round =>
            obtain ⟨j, hj, rfl, HJY⟩ := hrel
            by_cases hj8 : j < 8
            · have hq1 : decide ((j : Int) < 8) = true := by simp; omega
              have hq2 : (j : Int) < 8 := by omega
              obtain ⟨u, hu⟩ : ∃ u, u = (mkOf Me (j : Int)).2.2 := ⟨_, rfl⟩
              obtain ⟨z, hz⟩ : ∃ z, z = lastOf Le (j : Int) := ⟨_, rfl⟩
              obtain ⟨s2, hs2⟩ : ∃ s, z + 32 = s := ⟨_, rfl⟩
              have huz := HVX.out.u (j : Int)
              rw [← hu, ← hz] at huz
              obtain ⟨ws, ws'⟩ := w64 hs2 (by have := HNW.out; omega)
              have hgt : decide (u > s2) = false := by simp; omega
              have hgt2 : ¬ u > s2 := by omega
              have HU := Lib.hid (fun p : Bw wr => show Calls Tryd.prog 22 #[.pointer (some ⟨k, 0, none⟩), iv (j : Int)] p.W fun e w' => e = .returned (iv u) ∧ Below p.W.heap.size p.W w' from by
                rw [hu]
                exact (until_any (HJY.out.on p.h).b.v (n := (j : Int)) (in64_of (by omega))).mono fun _ _ h => ⟨h.1, h.2 ▸ Below.refl _ _⟩)
              have hlk := fun p : Bw wr => show (Instr.lookup Tmii (.map (some lb)) (iv (j : Int)) false).run Tryd.prog p.W = .ok (iv z) p.W from by
                rw [hz]
                exact (HJY.out.on p.h).l.look (in64_of (by omega))
              have HLK := Lib.hid hlk
              clear hu hz hs2 huz hlk
              go_wp2_with fail
              have hlk := HLK.out
              refine wp_region_bw (by kernel_rfl) (by kernel_rfl) ?_
              repeat (quiet_step ((go_at_call 22; rename_i p; exact Bw.call (HU.out p))))
              refine wpQuiet_nil ?_
              rintro _ ⟨p, rfl⟩
              have HJZ := Lib.hid (HJY.out.on p.h)
              clear hlk HU HLK
              go_wp2_with fail
              go_roundw
              case rel => exact ⟨j + 1, by omega, by go_num, HJZ⟩
              case measure => simp [intOf]; omega
            · have hq1 : decide ((j : Int) < 8) = false := by simp; omega
              have hq2 : ¬ (j : Int) < 8 := by omega
              go_wp2_with fail
              go_roundw
              case rel => exact ⟨i + 1, now, by omega, by omega, rfl, by go_num, Lib.hid ⟨_, _, _, HVX.out, HJY.out⟩⟩
              case measure => simp [intOf]; omega
        · have b1 : (kd == 3) = false := by simpa using hk3
          have b3 : (kd == 2) = false := by simpa using hk2
          have HUM := Lib.hid HJ1.out.b.v.uq
          go_wp2_with fail
          refine (HJ1.out.good HNI.out (by have := HLN.out; omega)).mono ?_
          rintro e wE ⟨rfl, hJE⟩
          have HJE := Lib.hid hJE
          have HVE := Lib.hid (HV1.out.good HUM.out n (by have := HLN.out; omega))
          clear hJE e0 e1 e2 e3 e4
          have HX := Lib.hid (show ∃ Me Be Le, JInv Me Be Le now (i + 1) ∧ Jst W k mb bb lb Me Be Le wE from ⟨_, _, _, HVE.out, HJE.out⟩)
          obtain ⟨Me, Be, Le, hVE, hJE⟩ := HX.out
          have HVX := Lib.hid hVE
          have HJX := Lib.hid hJE
          clear hVE hJE HX HVE HJE
          go_wp2_with fail
          go_loopw [89] (fun s w7 => ∃ j : Nat, j ≤ 8 ∧ s = .int .i64 j ∧ Hid (Jst W k mb bb lb Me Be Le w7)) (fun s _ => 8 - (intOf s).toNat)
          case atStart => exact ⟨0, by omega, rfl, HJX⟩
          case round =>
            obtain ⟨j, hj, rfl, HJY⟩ := hrel
            by_cases hj8 : j < 8
            · have hq1 : decide ((j : Int) < 8) = true := by simp; omega
              have hq2 : (j : Int) < 8 := by omega
              obtain ⟨u, hu⟩ : ∃ u, u = (mkOf Me (j : Int)).2.2 := ⟨_, rfl⟩
              obtain ⟨z, hz⟩ : ∃ z, z = lastOf Le (j : Int) := ⟨_, rfl⟩
              obtain ⟨s2, hs2⟩ : ∃ s, z + 32 = s := ⟨_, rfl⟩
              have huz := HVX.out.u (j : Int)
              rw [← hu, ← hz] at huz
              obtain ⟨ws, ws'⟩ := w64 hs2 (by have := HNW.out; omega)
              have hgt : decide (u > s2) = false := by simp; omega
              have hgt2 : ¬ u > s2 := by omega
              have HU := Lib.hid (fun p : Bw wr => show Calls Tryd.prog 22 #[.pointer (some ⟨k, 0, none⟩), iv (j : Int)] p.W fun e w' => e = .returned (iv u) ∧ Below p.W.heap.size p.W w' from by
                rw [hu]
                exact (until_any (HJY.out.on p.h).b.v (n := (j : Int)) (in64_of (by omega))).mono fun _ _ h => ⟨h.1, h.2 ▸ Below.refl _ _⟩)
              have hlk := fun p : Bw wr => show (Instr.lookup Tmii (.map (some lb)) (iv (j : Int)) false).run Tryd.prog p.W = .ok (iv z) p.W from by
                rw [hz]
                exact (HJY.out.on p.h).l.look (in64_of (by omega))
              have HLK := Lib.hid hlk
              clear hu hz hs2 huz hlk
              go_wp2_with fail
              have hlk := HLK.out
              refine wp_region_bw (by kernel_rfl) (by kernel_rfl) ?_
              repeat (quiet_step ((go_at_call 22; rename_i p; exact Bw.call (HU.out p))))
              refine wpQuiet_nil ?_
              rintro _ ⟨p, rfl⟩
              have HJZ := Lib.hid (HJY.out.on p.h)
              clear hlk HU HLK
              go_wp2_with fail
              go_roundw
              case rel => exact ⟨j + 1, by omega, by go_num, HJZ⟩
              case measure => simp [intOf]; omega
            · have hq1 : decide ((j : Int) < 8) = false := by simp; omega
              have hq2 : ¬ (j : Int) < 8 := by omega
              go_wp2_with fail
              go_roundw
              case rel => exact ⟨i + 1, now, by omega, by omega, rfl, by go_num, Lib.hid ⟨_, _, _, HVX.out, HJY.out⟩⟩
              case measure => simp [intOf]; omega
    · have hn : (decide ((i : Int) < (N : Int)) = false ∧ ¬ (i : Int) < (N : Int)) ∨ (decide ((i : Int) < (N : Int)) = true ∧ (i : Int) < (N : Int) ∧ decide ((i : Int) < 60) = false ∧ ¬ (i : Int) < 60) := by
        by_cases h : i < N
        · right; exact ⟨by simp; omega, by omega, by simp; omega, by omega⟩
        · left; exact ⟨by simp; omega, by omega⟩
      have HBN := Lib.hid (show Calls Tryd.prog 20 #[.pointer (some ⟨k, 0, none⟩), iv 0] wr fun e w' => e = .returned (.tuple #[.agg (pfC zeroP).toArray, .bool false]) ∧ Below wr.heap.size wr w' from by
        have := banned_any HJ.out.b.v (n := 0) (in64_of (by omega))
        rw [HV.out.b] at this
        exact this)
      obtain ⟨s2, hs2⟩ : ∃ s, nw + 32 = s := ⟨_, rfl⟩
      obtain ⟨ws, ws'⟩ := w64 hs2 (by have := HV.out.n; omega)
      have HMB := Lib.hid (show mayB M B 0 s2 = true from by
        unfold mayB
        rw [HV.out.b]
        have := HV.out.u 0
        simp only [Option.isSome_none, Bool.not_false, Bool.true_and, decide_eq_true_eq]
        omega)
      have HMY := Lib.hid (fun p (hb : Below wr.heap.size wr p) => show Calls Tryd.prog 23 #[.pointer (some ⟨k, 0, none⟩), iv 0, iv s2] p fun e w' => e = .returned (.bool true) ∧ Below p.heap.size p w' from by
        have := may_any (HJ.out.on hb).b.v (n := 0) (in64_of (by omega)) s2
        rw [HMB.out] at this
        exact this)
      obtain ⟨rV, hrV⟩ : ∃ rV, rV = (.agg (pfC zeroP).toArray : Value) := ⟨_, rfl⟩
      have HRV := Lib.hid hrV
      rw [← hrV] at HBN
      have HI := Lib.hid (sz_pf zeroP rfl)
      have HON := Lib.hid (one_pfC zeroP)
      clear hrV hs2
      rcases hn with ⟨hq1, hq2⟩ | ⟨hq1, hq2, hq3, hq4⟩
      all_goals
        go_wp2_with fail
        refine HBN.out.mono ?_
        rintro e w9 ⟨rfl, hb9⟩
        have HB9 := Lib.hid hb9
        clear hb9
        have HZ := Lib.hid (show Mem (w9.alloc (.cells (pfC zeroP).toArray Tpf)) w9.heap.size Tpf (pfC zeroP) from Mem.new w9 Tpf _)
        have HBZ := Lib.hid (belowSelf w9 (.cells (pfC zeroP).toArray Tpf))
        go_wp2_with (first
          | (refine wp_store_gen HBZ.out (Nat.le_refl _) HZ.out (pfC zeroP) Tpf (.tmp 14) (.tmp 104) rfl rfl rfl HRV.out HI.out rfl HON.out ?_
             intro W4 hm4 hb4 hz4 ho4
             have HB10 := Lib.hid (belowThen HB9.out hb4)
             clear hm4 hb4 hz4 ho4)
          | fail)
        refine (HMY.out W4 HB10.out).mono ?_
        rintro e w11 ⟨rfl, hb11⟩
        go_wp2_with fail
        go_ret
        exact ⟨rfl, ((HJ.out.on HB10.out).on hb11).b.bel⟩
end Go.Proofs.YtblfekecmahagaaDoor
