/-
  ReputeBounds: the walk.
-/
import Derived.Test.YtblfekecmahagaaDoorRep5
namespace Go.Proofs.YtblfekecmahagaaDoor
open Go.RowKit Go.Maps Crv

/-- What is thought of 1 and of 2 behind i good deeds of 1. -/
def GdS (M : MKt) (i : Nat) : Prop := mkOf M 1 = (min (i : Int) 20, 0, 0) ∧ mkOf M 2 = (0, 0, 0) ∧ M.length ≤ i
/-- And behind j silences more. -/
def SdS (M : MKt) (u : Int) (n j : Nat) : Prop := (mkOf M 1).1 = max (u - j) (-20) ∧ mkOf M 2 = (0, 0, 0) ∧ M.length ≤ n + j
theorem GdS.good {M : MKt} {i : Nat} (h : GdS M i) (hu : Uniq M) : GdS (goodM M 1) (i + 1) := by
  obtain ⟨h1, h2, h3⟩ := h
  refine ⟨?_, ?_, Nat.le_trans (length_setM hu 1 _) (by omega)⟩
  · rw [mkOf_good hu, if_pos rfl, h1]
    unfold goodK
    simp only [Prod.mk.injEq, and_true]
    omega
  · rw [mkOf_good hu, if_neg (by decide), h2]
theorem GdS.turn {M : MKt} {n : Nat} (h : GdS M n) : SdS M (min (n : Int) 20) n 0 := by
  obtain ⟨h1, h2, h3⟩ := h
  refine ⟨?_, h2, h3⟩
  rw [h1]
  simp only
  omega
theorem SdS.sil {M : MKt} {u : Int} {n j : Nat} (h : SdS M u n j) (hu : Uniq M) : SdS (silM M 1 0) u n (j + 1) := by
  obtain ⟨h1, h2, h3⟩ := h
  refine ⟨?_, ?_, Nat.le_trans (length_setM hu 1 _) (by omega)⟩
  · rw [mkOf_sil hu, if_pos rfl]
    unfold silK
    simp only
    rw [h1]
    omega
  · rw [mkOf_sil hu, if_neg (by decide), h2]
set_option maxHeartbeats 4000000 in
set_option maxRecDepth 100000 in
theorem reputeBounds_walk (a0 b0 : Int) (W : World) (hc : Consts W) : Calls Tryd.prog 7 #[.int .i64 a0, .int .i64 b0] W fun e w' => e = .returned (.bool true) ∧ Below W.heap.size W w' := by
  have HAW := Lib.hid (awake23_any W hc)
  obtain ⟨n, hn⟩ : ∃ n : Nat, min (max a0 0) 60 = (n : Int) := ⟨(min (max a0 0) 60).toNat, by omega⟩
  obtain ⟨m, hm⟩ : ∃ n : Nat, min (max b0 0) 60 = (n : Int) := ⟨(min (max b0 0) 60).toNat, by omega⟩
  have hn60 : n ≤ 60 := by omega
  have hm60 : m ≤ 60 := by omega
  have HN := Lib.hid hn
  have HM := Lib.hid hm
  clear hn hm hc
  go_enter Tryd.func7, Tryd.ntmps7
  go_wp2_with fail
  refine HAW.out.mono ?_
  rintro e w1 ⟨rfl, hb1⟩
  have HMK := Lib.hid (Lb.make hb1)
  clear hb1 HAW
  go_wp2_with fail
  refine HMK.out.mono ?_
  rintro e w2 ⟨rfl, h2⟩
  obtain ⟨k, hk⟩ : ∃ k, k = w1.heap.size + 2 := ⟨_, rfl⟩
  obtain ⟨mb, hmb⟩ : ∃ k, k = w1.heap.size := ⟨_, rfl⟩
  obtain ⟨bb, hbb⟩ : ∃ k, k = w1.heap.size + 1 := ⟨_, rfl⟩
  have H2 := Lib.hid (show Lb W k mb bb [] [] w2 from by rw [hk, hmb, hbb]; exact h2)
  rw [← hk]
  clear h2 hk hmb hbb HMK
  go_wp2_with (first
    | (refine wp_max0 (c := a0) (d := 0) (.tmp 10) (.const (.int .i64 0)) rfl rfl rfl rfl ?_)
    | (refine wp_min0 (c := max a0 0) (d := 60) (.tmp 11) (.const (.int .i64 60)) HN.out rfl rfl rfl rfl ?_)
    | (refine wp_max0 (c := b0) (d := 0) (.tmp 13) (.const (.int .i64 0)) rfl rfl rfl rfl ?_)
    | (refine wp_min0 (c := max b0 0) (d := 60) (.tmp 14) (.const (.int .i64 60)) HM.out rfl rfl rfl rfl ?_)
    | fail)
  go_loopw [17] (fun s wr => ∃ i : Nat, i ≤ n ∧ s = .int .i64 i ∧ Hid (∃ M, GdS M i ∧ Lb W k mb bb M [] wr)) (fun s _ => n - (intOf s).toNat)
  case atStart => exact ⟨0, by omega, rfl, Lib.hid ⟨[], ⟨rfl, rfl, Nat.le_refl _⟩, H2.out⟩⟩
  case round =>
    obtain ⟨i, hi, rfl, HI⟩ := hrel
    obtain ⟨M, hM, hL⟩ := HI.out
    have HMM := Lib.hid hM
    have HL := Lib.hid hL
    clear hM hL HI H2
    by_cases hlt : i < n
    · have hd : decide ((i : Int) < (n : Int)) = true := by simp; omega
      have hd2 : (i : Int) < (n : Int) := by omega
      go_wp2_with fail
      refine (HL.out.good (n := 1) (in64_of (by omega)) (by have := HMM.out.2.2; omega)).mono ?_
      rintro e w3 ⟨rfl, h3, -⟩
      have H3 := Lib.hid h3
      have HG := Lib.hid (HMM.out.good HL.out.v.uq)
      clear h3
      go_wp2_with fail
      go_roundw
      case rel => exact ⟨i + 1, by omega, by go_num, Lib.hid ⟨_, HG.out, H3.out⟩⟩
      case measure => simp [intOf]; omega
    · have hd : decide ((i : Int) < (n : Int)) = false := by simp; omega
      have hd2 : ¬ (i : Int) < (n : Int) := by omega
      obtain rfl : i = n := by omega
      have hsc := score_any HL.out.v (n := 1) (in64_of (by omega))
      rw [HMM.out.1] at hsc
      obtain ⟨u, hu⟩ : ∃ u, u = min (i : Int) 20 := ⟨_, rfl⟩
      have HU := Lib.hid hu
      rw [← hu] at hsc
      have HS := Lib.hid (hu ▸ HMM.out.turn)
      clear hu
      go_wp2_with fail
      refine hsc.mono ?_
      rintro e _ ⟨rfl, rfl⟩
      clear hsc
      go_wp2_with fail
      go_loopw [25] (fun s wr => ∃ j : Nat, j ≤ m ∧ s = .int .i64 j ∧ Hid (∃ M, SdS M u i j ∧ Lb W k mb bb M [] wr)) (fun s _ => m - (intOf s).toNat)
      case atStart => exact ⟨0, by omega, rfl, Lib.hid ⟨M, HS.out, HL.out⟩⟩
      case round =>
        obtain ⟨j, hj, rfl, HJ⟩ := hrel
        clear HS HMM HL
        obtain ⟨M, hM, hL⟩ := HJ.out
        have HMM := Lib.hid hM
        have HL := Lib.hid hL
        clear hM hL HJ
        by_cases hlt2 : j < m
        · have hd : decide ((j : Int) < (m : Int)) = true := by simp; omega
          have hd2 : (j : Int) < (m : Int) := by omega
          go_wp2_with fail
          refine (HL.out.silent (n := 1) (now := 0) (in64_of (by omega)) (by omega) (by have := HMM.out.2.2; omega)).mono ?_
          rintro e w3 ⟨rfl, h3, -⟩
          have H3 := Lib.hid h3
          have HG := Lib.hid (HMM.out.sil HL.out.v.uq)
          clear h3
          go_wp2_with fail
          go_roundw
          case rel => exact ⟨j + 1, by omega, by go_num, Lib.hid ⟨_, HG.out, H3.out⟩⟩
          case measure => simp [intOf]; omega
        · have hd3 : decide ((j : Int) < (m : Int)) = false := by simp; omega
          have hd4 : ¬ (j : Int) < (m : Int) := by omega
          obtain rfl : j = m := by omega
          have hs1 := score_any HL.out.v (n := 1) (in64_of (by omega))
          have hs2 := score_any HL.out.v (n := 2) (in64_of (by omega))
          have hu2 := until_any HL.out.v (n := 2) (in64_of (by omega))
          rw [HMM.out.1] at hs1
          rw [HMM.out.2.1] at hs2 hu2
          obtain ⟨t, ht⟩ : ∃ t, u - (j : Int) = t := ⟨_, rfl⟩
          obtain ⟨wt, wt'⟩ := w64 ht (by have := HU.out; omega)
          rw [ht] at hs1
          obtain ⟨z, hz⟩ : ∃ z, z = max t (-20) := ⟨_, rfl⟩
          rw [← hz] at hs1
          have HS1 := Lib.hid hs1
          have HS2 := Lib.hid hs2
          have HU2 := Lib.hid hu2
          have HZ := Lib.hid hz
          have hr : u = u := rfl
          clear hs1 hs2 hu2 ht hz
          go_wp2_with (first
            | (refine wp_min0 (c := (i : Int)) (d := 20) (.tmp 31) (.const (.int .i64 20)) HU.out.symm rfl rfl rfl rfl ?_)
            | fail)
          refine HS1.out.mono ?_
          rintro e _ ⟨rfl, rfl⟩
          clear HS1
          have h20 : max t (-20) = z := HZ.out.symm
          go_wp2_with fail
          all_goals
            refine HS2.out.mono ?_
            rintro e _ ⟨rfl, rfl⟩
            go_wp2_with fail
            refine HU2.out.mono ?_
            rintro e _ ⟨rfl, rfl⟩
            go_wp2_with fail
            go_ret
            exact ⟨rfl, HL.out.bel⟩
end Go.Proofs.YtblfekecmahagaaDoor
