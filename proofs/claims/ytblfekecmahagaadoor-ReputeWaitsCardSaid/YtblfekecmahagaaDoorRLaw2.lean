/-
  ReputeWaits: the walk.
-/
import Derived.Test.YtblfekecmahagaaDoorRep5
namespace Go.Proofs.YtblfekecmahagaaDoor
open Go.RowKit Go.Maps Crv

/-- Behind i silences: the next wait, and that nothing is waited for any more. -/
structure WtS (M : MKt) (i : Nat) (now wait : Int) : Prop where
  k : waitK (mkOf M 3).2.1 = wait
  u : (mkOf M 3).2.2 ≤ now
  n : 0 ≤ now ∧ now ≤ 100000 + 32 * (i : Int)
  w : 2 ≤ wait ∧ wait ≤ 32
  o : mkOf M 4 = (0, 0, 0)
  l : M.length ≤ i
theorem WtS.mk3 {M : MKt} {i : Nat} {now wait : Int} (h : WtS M i now wait) (hu : Uniq M) : (mkOf (silM M 3 now) 3).2 = (wait, now + wait) := by
  rw [mkOf_sil hu, if_pos rfl]
  unfold silK
  simp only [h.k, Prod.mk.injEq, true_and]
  have := h.u
  have := h.w
  omega
theorem WtS.sil {M : MKt} {i : Nat} {now wait : Int} (h : WtS M i now wait) (hu : Uniq M) : WtS (silM M 3 now) (i + 1) (now + wait) (min (2 * wait) 32) := by
  have h3 := h.mk3 hu
  have hn := h.n
  have hw := h.w
  refine ⟨?_, ?_, ⟨by omega, by omega⟩, ⟨by omega, by omega⟩, ?_, Nat.le_trans (length_setM hu 3 _) (by have := h.l; omega)⟩
  · rw [h3]
    unfold waitK
    omega
  · rw [h3]
    exact Int.le_refl _
  · rw [mkOf_sil hu, if_neg (by decide), h.o]
theorem last3 {M : MKt} (hu : Uniq M) {now : Int} (hn : 0 ≤ now) : (mkOf (silM (goodM M 3) 3 now) 3).2.2 = now + 2 := by
  rw [mkOf_sil (show Uniq (goodM M 3) from hu.set eM 3 _), if_pos rfl, mkOf_good hu, if_pos rfl]
  unfold silK goodK waitK
  simp only
  omega
theorem last4 {M : MKt} (hu : Uniq M) (h : mkOf M 4 = (0, 0, 0)) (now : Int) : mkOf (silM (goodM M 3) 3 now) 4 = (0, 0, 0) := by
  rw [mkOf_sil (show Uniq (goodM M 3) from hu.set eM 3 _), if_neg (by decide), mkOf_good hu, if_neg (by decide), h]
theorem may_nil (M : MKt) (n now : Int) : mayB M [] n now = decide ((mkOf M n).2.2 ≤ now) := rfl
theorem tick_num (z : Int) : ∃ o : Int, 0 ≤ o ∧ o < 100000 ∧ (wrap64 (Int.tmod z 100000 + 100000)).tmod 100000 = o := by
  have h1 : -100000 < Int.tmod z 100000 ∧ Int.tmod z 100000 < 100000 := ⟨by have := Int.lt_tmod_of_pos z (show (0 : Int) < 100000 by decide); omega, Int.tmod_lt_of_pos z (by decide)⟩
  rw [IntWalk.wrap64_in _ (by omega)]
  have h2 : (Int.tmod z 100000 + 100000).tmod 100000 = (Int.tmod z 100000 + 100000) % 100000 := Int.tmod_eq_emod_of_nonneg (by omega)
  rw [h2]
  exact ⟨_, by omega, by omega, rfl⟩
set_option maxHeartbeats 4000000 in
set_option maxRecDepth 100000 in
theorem reputeWaits_walk (a0 b0 : Int) (W : World) (hc : Consts W) : Calls Tryd.prog 5 #[.int .i64 a0, .int .i64 b0] W fun e w' => e = .returned (.bool true) ∧ Below W.heap.size W w' := by
  have HAW := Lib.hid (awake23_any W hc)
  obtain ⟨n, hn⟩ : ∃ n : Nat, min (max a0 0) 12 = (n : Int) := ⟨(min (max a0 0) 12).toNat, by omega⟩
  have hn12 : n ≤ 12 := by omega
  obtain ⟨nw0, hw0, hw1, hw⟩ := tick_num b0
  have HN := Lib.hid hn
  clear hn hc
  go_enter Tryd.func5, Tryd.ntmps5
  go_wp2_with fail
  refine HAW.out.mono ?_
  rintro e w1 ⟨rfl, hb1⟩
  have HMK := Lib.hid (Lb.make hb1)
  clear hb1 HAW
  go_wp2_with fail
  refine HMK.out.mono ?_
  rintro e w2 ⟨rfl, h2⟩
  obtain ⟨k, hk⟩ : ∃ k, k = w1.heap.size + 2 := ⟨_, rfl⟩
  obtain ⟨mb, hmb⟩ : ∃ k, k = w1.heap.size := ⟨_, rfl⟩
  obtain ⟨bb, hbb⟩ : ∃ k, k = w1.heap.size + 1 := ⟨_, rfl⟩
  have H2 := Lib.hid (show Lb W k mb bb [] [] w2 from by rw [hk, hmb, hbb]; exact h2)
  rw [← hk]
  clear h2 hk hmb hbb HMK
  go_wp2_with (first
    | (refine wp_max0 (c := a0) (d := 0) (.tmp 14) (.const (.int .i64 0)) rfl rfl rfl rfl ?_)
    | (refine wp_min0 (c := max a0 0) (d := 12) (.tmp 15) (.const (.int .i64 12)) HN.out rfl rfl rfl rfl ?_)
    | fail)
  go_loopw [1, 6, 17] (fun t u s wr => ∃ (i : Nat) (nw wt : Int), i ≤ n ∧ t = .int .i64 nw ∧ u = .int .i64 wt ∧ s = .int .i64 i ∧ Hid (∃ M, WtS M i nw wt ∧ Lb W k mb bb M [] wr)) (fun _ _ s _ => n - (intOf s).toNat)
  case atStart => exact ⟨0, nw0, 2, by omega, rfl, rfl, rfl, Lib.hid ⟨[], ⟨rfl, hw0, by omega, by omega, rfl, Nat.le_refl _⟩, H2.out⟩⟩
  case round =>
    obtain ⟨i, nw, wt, hi, rfl, rfl, rfl, HI⟩ := hrel
    obtain ⟨M, hM, hL⟩ := HI.out
    have HMM := Lib.hid hM
    have HL := Lib.hid hL
    clear hM hL HI H2 hw
    by_cases hlt : i < n
    · have hd : decide ((i : Int) < (n : Int)) = true := by simp; omega
      have hd2 : (i : Int) < (n : Int) := by omega
      go_wp2_with fail
      refine (HL.out.silent (n := 3) (now := nw) (in64_of (by omega)) (by have := HMM.out.n; omega) (by have := HMM.out.l; omega)).mono ?_
      rintro e w3 ⟨rfl, h3, -⟩
      have H3 := Lib.hid h3
      have HK := Lib.hid (HMM.out.mk3 HL.out.v.uq)
      have HG := Lib.hid (HMM.out.sil HL.out.v.uq)
      obtain ⟨s1, hs1⟩ : ∃ t, nw + wt = t := ⟨_, rfl⟩
      obtain ⟨ws1, ws1'⟩ := w64 hs1 (by have := HMM.out.n; have := HMM.out.w; omega)
      obtain ⟨s2, hs2⟩ : ∃ t, s1 - 1 = t := ⟨_, rfl⟩
      obtain ⟨ws2, ws2'⟩ := w64 hs2 (by have := HMM.out.n; have := HMM.out.w; omega)
      obtain ⟨d, hd0⟩ : ∃ t, 2 * wt = t := ⟨_, rfl⟩
      obtain ⟨wd, wd'⟩ := w64 hd0 (by have := HMM.out.w; omega)
      obtain ⟨q, hq⟩ : ∃ t, min d 32 = t := ⟨_, rfl⟩
      rw [hs1] at HK HG
      rw [hd0, hq] at HG
      obtain ⟨M3, hM3⟩ : ∃ M3, M3 = silM M 3 nw := ⟨_, rfl⟩
      rw [← hM3] at H3 HK HG
      have HU := Lib.hid (show Calls Tryd.prog 22 #[.pointer (some ⟨k, 0, none⟩), iv 3] w3 fun e w' => e = .returned (iv s1) ∧ w' = w3 from by
        have := until_any H3.out.v (n := 3) (in64_of (by omega))
        rwa [HK.out] at this)
      have HY1 := Lib.hid (show Calls Tryd.prog 23 #[.pointer (some ⟨k, 0, none⟩), iv 3, iv s2] w3 fun e w' => e = .returned (.bool false) ∧ Below w3.heap.size w3 w' from by
        have := may_any H3.out.v (n := 3) (in64_of (by omega)) s2
        rw [may_nil, HK.out, show decide ((wt, s1).2 ≤ s2) = false from by simp; omega] at this
        exact this)
      have HY2 := Lib.hid (fun w4 (hb : Below w3.heap.size w3 w4) => show Calls Tryd.prog 23 #[.pointer (some ⟨k, 0, none⟩), iv 3, iv s1] w4 fun e w' => e = .returned (.bool true) ∧ Below w4.heap.size w4 w' from by
        have := may_any (H3.out.on hb).v (n := 3) (in64_of (by omega)) s1
        rw [may_nil, HK.out, show decide ((wt, s1).2 ≤ s1) = true from by simp] at this
        exact this)
      have HU2 := Lib.hid (fun w4 (hb : Below w3.heap.size w3 w4) => show Calls Tryd.prog 22 #[.pointer (some ⟨k, 0, none⟩), iv 3] w4 fun e w' => e = .returned (iv s1) ∧ w' = w4 from by
        have := until_any (H3.out.on hb).v (n := 3) (in64_of (by omega))
        rwa [HK.out] at this)
      have HQ := Lib.hid hq
      clear h3 hs1 hs2 hd0 hM3 hq HMM HL
      go_wp2_with fail
      refine HU.out.mono ?_
      rintro e _ ⟨rfl, rfl⟩
      go_wp2_with fail
      refine HY1.out.mono ?_
      rintro e w4 ⟨rfl, hb4⟩
      have HB4 := Lib.hid hb4
      clear hb4
      go_wp2_with fail
      refine (HY2.out w4 HB4.out).mono ?_
      rintro e w5 ⟨rfl, hb5⟩
      have HB5 := Lib.hid (belowThen HB4.out hb5)
      clear hb5
      go_wp2_with fail
      refine (HU2.out w5 HB5.out).mono ?_
      rintro e _ ⟨rfl, rfl⟩
      have H5 := Lib.hid (H3.out.on HB5.out)
      go_wp2_with (first
        | (refine wp_min0 (c := d) (d := 32) (.tmp 47) (.const (.int .i64 32)) HQ.out rfl rfl rfl rfl ?_)
        | fail)
      go_roundw
      case rel => exact ⟨i + 1, s1, q, by omega, rfl, rfl, by go_num, Lib.hid ⟨_, HG.out, H5.out⟩⟩
      case measure => simp [intOf]; omega
    · have hd : decide ((i : Int) < (n : Int)) = false := by simp; omega
      have hd2 : ¬ (i : Int) < (n : Int) := by omega
      go_wp2_with fail
      refine (HL.out.good (n := 3) (in64_of (by omega)) (by have := HMM.out.l; omega)).mono ?_
      rintro e w3 ⟨rfl, h3, -⟩
      have H3 := Lib.hid h3
      have HL3 := Lib.hid (show (goodM M 3).length ≤ 20 from Nat.le_trans (length_setM HL.out.v.uq 3 _) (by have := HMM.out.l; omega))
      clear h3
      go_wp2_with fail
      refine (H3.out.silent (n := 3) (now := nw) (in64_of (by omega)) (by have := HMM.out.n; omega) (by have := HL3.out; omega)).mono ?_
      rintro e w4 ⟨rfl, h4, -⟩
      have H4 := Lib.hid h4
      have hu3 := until_any H4.out.v (n := 3) (in64_of (by omega))
      have hu4 := until_any H4.out.v (n := 4) (in64_of (by omega))
      rw [last3 HL.out.v.uq HMM.out.n.1] at hu3
      rw [last4 HL.out.v.uq HMM.out.o] at hu4
      obtain ⟨s1, hs1⟩ : ∃ t, nw + 2 = t := ⟨_, rfl⟩
      obtain ⟨ws1, ws1'⟩ := w64 hs1 (by have := HMM.out.n; omega)
      rw [hs1] at hu3
      have HU3 := Lib.hid hu3
      have HU4 := Lib.hid hu4
      clear hu3 hu4 h4 hs1 H3
      go_wp2_with fail
      refine HU3.out.mono ?_
      rintro e _ ⟨rfl, rfl⟩
      go_wp2_with fail
      refine HU4.out.mono ?_
      rintro e _ ⟨rfl, rfl⟩
      go_wp2_with fail
      go_ret
      exact ⟨rfl, H4.out.bel⟩
end Go.Proofs.YtblfekecmahagaaDoor
