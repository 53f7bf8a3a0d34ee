/-
  ReputeFirst: the walk.
-/
import Derived.Test.YtblfekecmahagaaDoorRMap
import Derived.Test.YtblfekecmahagaaDoorRSrt2
namespace Go.Proofs.YtblfekecmahagaaDoor
open Go.RowKit Go.Maps Crv

/-- What stands behind i acts: whether one was banned, by which text. -/
structure FI (M : MKt) (B : BNt) (is : Bool) (text : List UInt8) (i : Nat) : Prop where
  b : (is = false ∧ text = [] ∧ B = []) ∨ (is = true ∧ ∃ P : PF, B = [(2, P)] ∧ text = P.2.2 ∧ holdsP P = true ∧ P.1 = 1 ∧ P.2.1.length = 32 ∧ P.2.2.length ≤ 1000000)
  u : (mkOf M 2).2.2 = 0
  l : M.length ≤ i
theorem FI.nil : FI [] [] false [] 0 := ⟨.inl ⟨rfl, rfl, rfl⟩, rfl, Nat.le_refl _⟩
section
variable {M : MKt} {B : BNt} {is : Bool} {text : List UInt8} {i : Nat}
theorem FI.len (h : FI M B is text i) : B.length ≤ 1 := by
  rcases h.b with ⟨_, _, rfl⟩ | ⟨_, P, rfl, _⟩ <;> simp
theorem FI.good (h : FI M B is text i) (hu : Uniq M) : FI (goodM M 2) B is text (i + 1) := by
  refine ⟨h.b, ?_, Nat.le_trans (length_setM hu 2 _) (by have := h.l; omega)⟩
  rw [mkOf_good hu, if_pos rfl]
  rfl
theorem FI.first (h : FI M B false text i) {P : PF} (hh : holdsP P = true) (h1 : P.1 = 1) (h2 : P.2.1.length = 32) (h3 : P.2.2.length ≤ 1000000) : FI M (banB B 2 P) true P.2.2 i := by
  refine ⟨.inr ⟨rfl, P, ?_, rfl, hh, h1, h2, h3⟩, h.u, h.l⟩
  rcases h.b with ⟨_, _, rfl⟩ | ⟨e, _⟩
  · rfl
  · cases e
theorem FI.more (h : FI M B true text i) (P : PF) : FI M (banB B 2 P) true text i := by
  refine ⟨?_, h.u, h.l⟩
  rcases h.b with ⟨e, _⟩ | ⟨e, Q, rfl, hr⟩
  · cases e
  · exact .inr ⟨rfl, Q, by simp [banB, getK], hr⟩
end
set_option maxRecDepth 100000 in
theorem only_f (w : World) : Calls Tryd.prog 27 #[.bool false] w fun e w' => e = .returned (.slice none 0 0) ∧ Below w.heap.size w w' := by
  go_enter Tryd.func27, Tryd.ntmps27
  go_wp2_with fail
  go_ret
  exact ⟨rfl, Below.refl _ _⟩
set_option maxRecDepth 100000 in
theorem only_t (w : World) : Calls Tryd.prog 27 #[.bool true] w fun e w' => e = .returned (.slice (some ⟨w.heap.size, 0, none⟩) 1 1) ∧ Below w.heap.size w w' := by
  go_enter Tryd.func27, Tryd.ntmps27
  go_wp2_with fail
  go_ret
  exact ⟨rfl, belowSelf w _⟩
/-- Sort of one address, banned or not. -/
theorem sort_two {w : World} {k mb bb : Nat} {M : MKt} {B : BNt} (hv : Bv w k mb bb M B) (hu : (mkOf M 2).2.2 = 0) (is : Bool) (hi : (getK 2 B).isSome = is) : Calls Tryd.prog 25 #[.pointer (some ⟨k, 0, none⟩), iv 0, .slice (some ⟨w.heap.size, 0, none⟩) 1 1] (w.alloc (.cells #[iv 2] Tin)) fun e w' =>
    ∃ a cap, e = .returned (.slice a (if is = true then 0 else 1) cap) ∧ Below w.heap.size w w' := by
  have hz : ZsP (w.alloc (.cells #[iv 2] Tin)) (.slice (some ⟨w.heap.size, 0, none⟩) 1 1) [2] := ⟨_, 1, rfl, fun i hi => by
    have e : i = 0 := by simp at hi; omega
    subst e
    exact ⟨_, _, rfl, (Mem.new w Tin [iv 2]).cell 0⟩⟩
  refine (rsort_any (hv.below (belowSelf w _)) hz (fun x hx => by simp at hx; subst hx; exact in64_of (by omega)) (by simp) 0).mono ?_
  rintro e w' ⟨u, ys, rfl, hp, -, ho, hb⟩
  obtain ⟨a, cap, rfl, -⟩ := ho.form
  refine ⟨a, cap, ?_, belowThen (belowSelf w _) hb⟩
  have hl := hp.length_eq
  rw [List.length_map, hl]
  unfold maysL mayB
  rw [List.filter_cons, List.filter_nil, hi, hu]
  cases is <;> rfl

attribute [local go_sem ↓] ld_pf
set_option maxHeartbeats 4000000 in
set_option maxRecDepth 100000 in
theorem reputeFirst_walk (v : Value) (acts : List AR) (z0 : Int) (W : World) (hc : Consts W) (hA : ActsR W v acts) : Calls Tryd.prog 6 #[v, .int .i64 z0] W fun e w' => e = .returned (.bool true) ∧ Below W.heap.size W w' := by
  obtain ⟨aa, ac, rfl, -⟩ := id hA
  rw [List.length_map] at hA ⊢
  have HA := Lib.hid hA
  have HC := Lib.hid hc
  obtain ⟨N, hN⟩ : ∃ N, N = acts.length := ⟨_, rfl⟩
  have HN := Lib.hid hN
  rw [← hN] at HA ⊢
  clear hA hN
  have HAW := Lib.hid (awake23_any W hc)
  clear hc
  go_enter Tryd.func6, Tryd.ntmps6
  go_wp2_with fail
  refine HAW.out.mono ?_
  rintro e w1 ⟨rfl, hb1⟩
  have HMK := Lib.hid (Lb.make hb1)
  clear hb1 HAW
  go_wp2_with fail
  refine HMK.out.mono ?_
  rintro e w2 ⟨rfl, h2⟩
  obtain ⟨k, hk⟩ : ∃ k, k = w1.heap.size + 2 := ⟨_, rfl⟩
  obtain ⟨mb, hmb⟩ : ∃ k, k = w1.heap.size := ⟨_, rfl⟩
  obtain ⟨bb, hbb⟩ : ∃ k, k = w1.heap.size + 1 := ⟨_, rfl⟩
  have H2 := Lib.hid (show Lb W k mb bb [] [] w2 from by rw [hk, hmb, hbb]; exact h2)
  rw [← hk]
  clear h2 hk hmb hbb HMK
  go_wp2_with fail
  go_loopw [6, 7, 8] (fun t b s wr => ∃ (i : Nat) (text : List UInt8) (is : Bool), i ≤ N ∧ i ≤ 40 ∧ t = tx text ∧ b = .bool is ∧ s = .int .i64 i ∧ Hid (∃ M B, FI M B is text i ∧ Lb W k mb bb M B wr)) (fun _ _ s _ => 40 - (intOf s).toNat)
  case atStart => exact ⟨0, [], false, by omega, by omega, rfl, rfl, rfl, Lib.hid ⟨[], [], FI.nil, H2.out⟩⟩
  case round =>
    obtain ⟨i, text, is, hi, hi2, rfl, rfl, rfl, HX⟩ := hrel
    obtain ⟨M, B, hV, hJ⟩ := HX.out
    have HV := Lib.hid hV
    have HJ := Lib.hid hJ
    clear hV hJ HX H2
    by_cases hlt : i < N ∧ i < 40
    · have hd1 : decide ((i : Int) < (N : Int)) = true := by simp; omega
      have hd2 : decide ((i : Int) < 40) = true := by simp; omega
      have hd3 : (i : Int) < (N : Int) := by omega
      have hd4 : (i : Int) < 40 := by omega
      have hil : i < acts.length := by rw [← HN.out]; exact hlt.1
      obtain ⟨g, off, rfl, k0, k1, k2, k3, k4⟩ := HA.out.cells HJ.out.bel hil
      obtain ⟨act, hact⟩ : ∃ act, act = acts[i] := ⟨_, rfl⟩
      rw [← hact] at k0 k1 k2 k3 k4
      obtain ⟨kd, n0, by_, ttt, rrr⟩ := act
      simp only at k0 k1 k2 k3 k4
      clear hact hil
      obtain ⟨P, hP⟩ : ∃ P, P = pfOf (kd, n0, by_, ttt, rrr) := ⟨_, rfl⟩
      obtain ⟨pV, hpV⟩ : ∃ pV, pV = (.agg (pfC P).toArray : Value) := ⟨_, rfl⟩
      obtain ⟨rV, hrV⟩ : ∃ rV, rV = (.agg (rpC P).toArray : Value) := ⟨_, rfl⟩
      have HPR := Lib.hid (fun w (h : Consts w) => show Calls Tryd.prog 14 #[.agg (arC (kd, n0, by_, ttt, rrr)).toArray] w fun e w' => e = .returned (.tuple #[pV, rV]) ∧ Below w.heap.size w w' from by rw [hpV, hrV, hP]; exact proof_any (kd, n0, by_, ttt, rrr) w h)
      have HP1 := Lib.hid (show P.1 = 1 from by rw [hP]; rfl)
      have HPL := Lib.hid (show P.2.1.length = 32 from by rw [hP]; rfl)
      have HPT := Lib.hid (show P.2.2.length ≤ 1000000 from by rw [hP]; exact (pfOf_ok _).2.2)
      have HPV := Lib.hid hpV
      have HRV := Lib.hid hrV
      have HI := Lib.hid (sz_pf P HPL.out)
      have HI3 := Lib.hid (show (Tryd.prog.info? Trp).map (·.size) = some (rpC P).length from by kernel_rfl)
      have HLL := Lib.hid (show (pfC zeroP).length = (pfC P).length from by rw [len_pfC HPL.out]; rfl)
      have HON := Lib.hid (one_pfC P)
      have HON3 := Lib.hid (show ∀ u ∈ rpC P, u.oneCell' = true from by intro u hu; simp only [rpC, List.mem_cons, List.mem_nil_iff, or_false] at hu; rcases hu with rfl | rfl | rfl <;> rfl)
      have HCW := Lib.hid (HC.out.on HJ.out.bel)
      have HUM := Lib.hid HJ.out.v.uq
      have HBL := Lib.hid HV.out.len
      have HML := Lib.hid HV.out.l
      clear hP hpV hrV
      go_wp2_with fail
      refine (HPR.out wr HCW.out).mono ?_
      rintro e w5 ⟨rfl, hb5⟩
      have HJ5 := Lib.hid (HJ.out.on hb5)
      clear hb5 k0 k1 k2 k3 k4
      have HZ34 := Lib.hid (show Mem ((w5.alloc (.cells (pfC zeroP).toArray Tpf)).alloc (.cells (rpC (0, [], [])).toArray Trp)) w5.heap.size Tpf (pfC zeroP) from (Mem.new w5 Tpf _).alloc _)
      have HZ3 := Lib.hid (show Mem ((w5.alloc (.cells (pfC zeroP).toArray Tpf)).alloc (.cells (rpC (0, [], [])).toArray Trp)) (w5.heap.size + 1) Trp (rpC (0, [], [])) from Mem.newAt _ Trp _ (by simp))
      have HB34 := Lib.hid (show Below w5.heap.size w5 ((w5.alloc (.cells (pfC zeroP).toArray Tpf)).alloc (.cells (rpC (0, [], [])).toArray Trp)) from belowThen (belowSelf w5 _) (belowSelf _ _))
      go_wp2_with (first
      | (refine wp_store_gen HB34.out (Nat.le_refl _) HZ34.out (pfC P) Tpf (.tmp 9) (.tmp 32) rfl rfl rfl HPV.out HI.out HLL.out HON.out ?_
         intro W4 hm4 hb4 hz4 ho4
         have HM4 := Lib.hid hm4
         have HB4 := Lib.hid hb4
         have HZ4 := Lib.hid (show Mem W4 (w5.heap.size + 1) Trp (rpC (0, [], [])) from (ho4 _ (by omega)).trans HZ3.out)
         clear hm4 hb4 hz4 ho4)
      | (refine wp_store_gen HB4.out (Nat.le_succ _) HZ4.out (rpC P) Trp (.tmp 10) (.tmp 33) rfl rfl rfl HRV.out HI3.out rfl HON3.out ?_
         intro W6 hm6 hb6 hz6 ho6
         have HM6 := Lib.hid (show Mem W6 w5.heap.size Tpf (pfC P) from (ho6 _ (by omega)).trans HM4.out)
         have HR6 := Lib.hid hm6
         have HJ6 := Lib.hid (HJ5.out.on hb6)
         have hld6 := ld_pf_at HM6.out HPL.out
         clear hm6 hb6 hz6 ho6)
      | fail)
      have hbn := HJ6.out.ban HC.out (n := 2) (in64_of (by omega)) P HP1.out HPL.out HPT.out (by have := HBL.out; omega)
      obtain ⟨hh, hhe⟩ : ∃ b, b = holdsP P := ⟨_, rfl⟩
      have HHE := Lib.hid hhe
      rw [← hhe] at hbn
      clear hhe
      cases hh with
      | false =>
        simp only [Bool.false_eq_true, if_false] at hbn
        refine hbn.mono ?_
        rintro e wE ⟨rfl, hJE, -⟩
        have HJE := Lib.hid hJE
        cases is with
        | true =>
          have HV8 := Lib.hid (HV.out.good HUM.out)
          clear hJE hbn hld6
          go_wp2_with fail
          refine (HJE.out.good (n := 2) (in64_of (by omega)) (by have := HML.out; omega)).mono ?_
          rintro e w8 ⟨rfl, h8, -⟩
          have HX8 := Lib.hid (show ∃ Me Be, FI Me Be true text (i + 1) ∧ Lb W k mb bb Me Be w8 from ⟨_, _, HV8.out, h8⟩)
          clear h8
          go_wp2_with fail
          go_roundw
          case rel => exact ⟨i + 1, text, true, by omega, by omega, rfl, rfl, by go_num, HX8⟩
          case measure => simp [intOf]; omega
        | false =>
          have HV8 := Lib.hid (HV.out.good HUM.out)
          clear hJE hbn hld6
          go_wp2_with fail
          refine (HJE.out.good (n := 2) (in64_of (by omega)) (by have := HML.out; omega)).mono ?_
          rintro e w8 ⟨rfl, h8, -⟩
          have HX8 := Lib.hid (show ∃ Me Be, FI Me Be false text (i + 1) ∧ Lb W k mb bb Me Be w8 from ⟨_, _, HV8.out, h8⟩)
          clear h8
          go_wp2_with fail
          go_roundw
          case rel => exact ⟨i + 1, text, false, by omega, by omega, rfl, rfl, by go_num, HX8⟩
          case measure => simp [intOf]; omega
      | true =>
        simp only [if_true] at hbn
        refine hbn.mono ?_
        rintro e wE ⟨rfl, hJE, hg⟩
        have HJE := Lib.hid hJE
        cases is with
        | false =>
          have hw33 : wE.cell? ⟨w5.heap.size, 33, none⟩ = some (tx P.2.2) := by
            have hm : Mem wE w5.heap.size Tpf (pfC P) := (hg.block w5.heap.size HM6.out.lt (fun e => mem_ne_map HM6.out (MpS.block HJ6.out.v.u) (Option.some.inj e))).trans HM6.out
            exact (pf_cells hm HPL.out).2.2
          have HV8 := Lib.hid ((HV.out.first HHE.out.symm HP1.out HPL.out HPT.out).good HUM.out)
          clear hg hJE hbn hld6
          go_wp2_with fail
          refine (HJE.out.good (n := 2) (in64_of (by omega)) (by have := HML.out; omega)).mono ?_
          rintro e w8 ⟨rfl, h8, -⟩
          have HX8 := Lib.hid (show ∃ Me Be, FI Me Be true P.2.2 (i + 1) ∧ Lb W k mb bb Me Be w8 from ⟨_, _, HV8.out, h8⟩)
          clear h8
          go_wp2_with fail
          go_roundw
          case rel => exact ⟨i + 1, P.2.2, true, by omega, by omega, rfl, rfl, by go_num, HX8⟩
          case measure => simp [intOf]; omega
        | true =>
          have HV8 := Lib.hid ((HV.out.more P).good HUM.out)
          clear hg hJE hbn hld6
          go_wp2_with fail
          refine (HJE.out.good (n := 2) (in64_of (by omega)) (by have := HML.out; omega)).mono ?_
          rintro e w8 ⟨rfl, h8, -⟩
          have HX8 := Lib.hid (show ∃ Me Be, FI Me Be true text (i + 1) ∧ Lb W k mb bb Me Be w8 from ⟨_, _, HV8.out, h8⟩)
          clear h8
          go_wp2_with fail
          go_roundw
          case rel => exact ⟨i + 1, text, true, by omega, by omega, rfl, rfl, by go_num, HX8⟩
          case measure => simp [intOf]; omega
    · have hn : (decide ((i : Int) < (N : Int)) = false ∧ ¬ (i : Int) < (N : Int)) ∨ (decide ((i : Int) < (N : Int)) = true ∧ (i : Int) < (N : Int) ∧ decide ((i : Int) < 40) = false ∧ ¬ (i : Int) < 40) := by
        by_cases h : i < N
        · right; exact ⟨by simp; omega, by omega, by simp; omega, by omega⟩
        · left; exact ⟨by simp; omega, by omega⟩
      rcases HV.out.b with ⟨rfl, rfl, rfl⟩ | ⟨rfl, P, rfl, rfl, hh, h1, h2, h3⟩
      · obtain ⟨P, hP⟩ : ∃ P, P = zeroP := ⟨_, rfl⟩
        have h2 : P.2.1.length = 32 := by rw [hP]; rfl
        have HP2 := Lib.hid (show P.2.2 = [] from by rw [hP]; rfl)
        have HBN := Lib.hid (show Calls Tryd.prog 20 #[.pointer (some ⟨k, 0, none⟩), iv 2] wr fun e w' => e = .returned (.tuple #[.agg (pfC P).toArray, .bool false]) ∧ Below wr.heap.size wr w' from hP ▸ banned_any HJ.out.v (n := 2) (in64_of (by omega)))
        obtain ⟨rV, hrV⟩ : ∃ rV, rV = (.agg (pfC P).toArray : Value) := ⟨_, rfl⟩
        have HRV := Lib.hid hrV
        rw [← hrV] at HBN
        have HPL := Lib.hid (show (P).2.1.length = 32 from h2)
        have HI := Lib.hid (sz_pf P HPL.out)
        have HON := Lib.hid (one_pfC P)
        have HLL := Lib.hid (show (pfC zeroP).length = (pfC P).length from (len_pfC (p := zeroP) rfl).trans (len_pfC HPL.out).symm)
        have HU := Lib.hid HV.out.u
        clear hrV
        rcases hn with ⟨hq1, hq2⟩ | ⟨hq1, hq2, hq3, hq4⟩
        clear h2 hP
        all_goals
          go_wp2_with fail
          refine HBN.out.mono ?_
          rintro e w9 ⟨rfl, hb9⟩
          have HB9 := Lib.hid hb9
          clear hb9
          have HZ := Lib.hid (show Mem (w9.alloc (.cells (pfC zeroP).toArray Tpf)) w9.heap.size Tpf (pfC zeroP) from Mem.new w9 Tpf _)
          have HBZ := Lib.hid (belowSelf w9 (.cells (pfC zeroP).toArray Tpf))
          go_upto_region 14 with (first
          | (refine wp_store_gen HBZ.out (Nat.le_refl _) HZ.out (pfC P) Tpf (.tmp 11) (.tmp 49) rfl rfl rfl HRV.out HI.out HLL.out HON.out ?_
             intro W4 hm4 hb4 hz4 ho4
             have HB4 := Lib.hid (belowThen HB9.out hb4)
             have HM4 := Lib.hid hm4
             have hc33 : W4.cell? ⟨w9.heap.size, 33, none⟩ = some (tx []) := HP2.out ▸ (pf_cells hm4 HPL.out).2.2
             have hld4 := ld_pf_at HM4.out HPL.out
             clear hm4 hb4 hz4 ho4)
          | fail)
          clear HBZ HZ
          go_wp2_with fail
          have HJ4 := Lib.hid (HJ.out.on HB4.out)
          refine (sort_two HJ4.out.v HU.out false rfl).mono ?_
          rintro e w6 ⟨a6, c6, rfl, hb6⟩
          have HB6 := Lib.hid hb6
          clear hb6 hld4
          go_wp2_with fail
          refine (only_f _).mono ?_
          rintro e w7 ⟨rfl, hb7⟩
          have HB7 := Lib.hid (belowThen HB6.out hb7)
          clear hb7
          go_wp2_with fail
          go_ret
          exact ⟨rfl, (HJ4.out.on HB7.out).bel⟩
      · have HHO := Lib.hid (fun w (h : Consts w) => show Calls Tryd.prog 17 #[.agg (pfC P).toArray] w fun e w' => e = .returned (.bool true) ∧ Below w.heap.size w w' from by
          have := holds_any P w h h1 h2 h3
          rwa [hh] at this)
        have HBN := Lib.hid (show Calls Tryd.prog 20 #[.pointer (some ⟨k, 0, none⟩), iv 2] wr fun e w' => e = .returned (.tuple #[.agg (pfC P).toArray, .bool true]) ∧ Below wr.heap.size wr w' from banned_any HJ.out.v (n := 2) (in64_of (by omega)))
        obtain ⟨rV, hrV⟩ : ∃ rV, rV = (.agg (pfC P).toArray : Value) := ⟨_, rfl⟩
        have HRV := Lib.hid hrV
        rw [← hrV] at HBN
        have HPL := Lib.hid (show (P).2.1.length = 32 from h2)
        have HI := Lib.hid (sz_pf P HPL.out)
        have HON := Lib.hid (one_pfC P)
        have HLL := Lib.hid (show (pfC zeroP).length = (pfC P).length from (len_pfC (p := zeroP) rfl).trans (len_pfC HPL.out).symm)
        have HU := Lib.hid HV.out.u
        clear hrV
        rcases hn with ⟨hq1, hq2⟩ | ⟨hq1, hq2, hq3, hq4⟩
        clear hh h1 h2 h3
        all_goals
          go_wp2_with fail
          refine HBN.out.mono ?_
          rintro e w9 ⟨rfl, hb9⟩
          have HB9 := Lib.hid hb9
          clear hb9
          have HZ := Lib.hid (show Mem (w9.alloc (.cells (pfC zeroP).toArray Tpf)) w9.heap.size Tpf (pfC zeroP) from Mem.new w9 Tpf _)
          have HBZ := Lib.hid (belowSelf w9 (.cells (pfC zeroP).toArray Tpf))
          go_wp2_with (first
          | (refine wp_store_gen HBZ.out (Nat.le_refl _) HZ.out (pfC P) Tpf (.tmp 11) (.tmp 49) rfl rfl rfl HRV.out HI.out HLL.out HON.out ?_
             intro W4 hm4 hb4 hz4 ho4
             have HB4 := Lib.hid (belowThen HB9.out hb4)
             have HM4 := Lib.hid hm4
             have hc33 := (pf_cells hm4 HPL.out).2.2
             have hld4 := ld_pf_at HM4.out HPL.out
             clear hm4 hb4 hz4 ho4)
          | fail)
          have HJ4 := Lib.hid (HJ.out.on HB4.out)
          refine (HHO.out _ (HC.out.on HJ4.out.bel)).mono ?_
          rintro e w5 ⟨rfl, hb5⟩
          have HJ5 := Lib.hid (HJ4.out.on hb5)
          have HMY := Lib.hid (fun z => show Calls Tryd.prog 23 #[.pointer (some ⟨k, 0, none⟩), iv 2, iv z] w5 fun e w' => e = .returned (.bool false) ∧ Below w5.heap.size w5 w' from may_any HJ5.out.v (n := 2) (in64_of (by omega)) z)
          clear hb5 hld4
          go_wp2_with fail
          all_goals
            refine (HMY.out _).mono ?_
            rintro e w6 ⟨rfl, hb6⟩
            have HJ6 := Lib.hid (HJ5.out.on hb6)
            clear hb6
            go_wp2_with fail
            refine (sort_two HJ6.out.v HU.out true rfl).mono ?_
            rintro e w7 ⟨a7, c7, rfl, hb7⟩
            have HJ7 := Lib.hid (HJ6.out.on hb7)
            clear hb7
            go_wp2_with fail
            refine (only_t _).mono ?_
            rintro e w8 ⟨rfl, hb8⟩
            have HJ8 := Lib.hid (HJ7.out.on hb8)
            clear hb8
            go_wp2_with fail
            go_ret
            exact ⟨rfl, HJ8.out.bel⟩
end Go.Proofs.YtblfekecmahagaaDoor
