/-
  QuotaBound: the walk.
-/
import Derived.Test.YtbodoodgdojgoaaQLaw2
namespace Go.Proofs.Ytbodoodgdojgoaa
open Go.RowKit Go.Maps Crv

theorem ZsP.at {W w : World} {a : Option Addr} {n cap : Nat} {xs : List Int} (h : ZsP W (.slice a n cap) xs) (hb : Below W.heap.size W w) (i : Nat) (hi : i < xs.length) : ∃ g off, a = some ⟨g, off, none⟩ ∧ w.cell? ⟨g, off + i, none⟩ = some (iv (xs.getD i 0)) := by
  obtain ⟨a', cap', h1, h3⟩ := h.below hb
  injection h1 with h1 _ _
  obtain ⟨g, off, ha, hc⟩ := h3 i hi
  exact ⟨g, off, h1.trans ha, hc⟩
/-- What was got, and what there is, is no more than may be. -/
def BQ (each most : Int) (T : SHt) (nw got : Int) : Prop := getK 6 T = none ∧ (∀ p, getK 5 T = some p → p.2 ≤ nw) ∧ got + hasQ each most T 5 nw ≤ most + nw * each ∧ 0 ≤ got
theorem bq_nil (each most : Int) : BQ each most [] 0 0 := ⟨rfl, fun p h => by simp [getK] at h, by unfold hasQ getK; simp, Int.le_refl _⟩
theorem BQ.time {each most nw got d : Int} {T : SHt} (h : BQ each most T nw got) (hr : RtQ each most) (hd : 0 ≤ d) : BQ each most T (nw + d) got := by
  obtain ⟨h1, h2, h3, h4⟩ := h
  refine ⟨h1, fun p hp => by have := h2 p hp; omega, ?_, h4⟩
  have hde : 0 ≤ d * each := Int.mul_nonneg hd (by have := hr.1; omega)
  rw [Int.add_mul]
  unfold hasQ at h3 ⊢
  cases hg : getK 5 T with
  | none => rw [hg] at h3; simp only at h3 ⊢; omega
  | some p =>
    rw [hg] at h3
    simp only at h3 ⊢
    have := growQ_more hr (h2 p hg) hd
    omega
theorem BQ.yes {each most nw got c : Int} {T : SHt} (h : BQ each most T nw got) (hr : RtQ each most) (hT : OkQ most T) (hu : Uniq T) (hn : 0 ≤ nw) (hok : okQ each most T 5 c nw = true) : BQ each most (takeQ each most T 5 c nw) nw (got + c) := by
  obtain ⟨h1, h2, h3, h4⟩ := h
  have hc := okQ_le hok
  have hin := hasQ_in hr hT 5 nw
  have hdate : dateQ T 5 nw = nw := by
    unfold dateQ
    cases hg : getK 5 T with
    | none => simp only [Option.getD_none]; omega
    | some p => have := h2 p hg; simp only [Option.getD_some]; omega
  have hg5 : getK 5 (takeQ each most T 5 c nw) = some (hasQ each most T 5 nw - c, nw) := by
    rw [takeQ_get hu, if_pos ⟨hok, rfl⟩, hdate]
  refine ⟨?_, ?_, ?_, by omega⟩
  · rw [takeQ_get hu, if_neg (by simp), h1]
  · intro p hp
    rw [hg5] at hp
    injection hp with hp
    rw [← hp]
    exact Int.le_refl _
  · have : hasQ each most (takeQ each most T 5 c nw) 5 nw = hasQ each most T 5 nw - c := by
      rw [show hasQ each most (takeQ each most T 5 c nw) 5 nw = growQ each most (hasQ each most T 5 nw - c, nw) nw from by unfold hasQ; rw [hg5]; rfl]
      unfold growQ
      simp only
      rw [show min (max nw nw - nw) most = 0 by omega, Int.zero_mul]
      omega
    rw [this]
    omega
theorem BQ.no {each most nw got c : Int} {T : SHt} (h : BQ each most T nw got) (hok : okQ each most T 5 c nw = false) : BQ each most (takeQ each most T 5 c nw) nw got := by rw [takeQ_no hok]; exact h
/-- What the law looks at behind each call. -/
theorem BQ.see {each most nw got : Int} {T : SHt} (h : BQ each most T nw got) (hr : RtQ each most) (hT : OkQ most T) (he : each ≤ 20 ∧ most ≤ 300) (hn : 0 ≤ nw ∧ nw ≤ 420) :
    ∃ P S Y : Int, (wrap64 (nw * each) = P ∧ IntKind.i64.wrap (nw * each) = P) ∧ (wrap64 (most + P) = S ∧ IntKind.i64.wrap (most + P) = S) ∧ hasQ each most T 5 nw = Y ∧ got ≤ S ∧ 0 ≤ Y ∧ Y ≤ most ∧ got ≤ 100000 := by
  have hin := hasQ_in hr hT 5 nw
  have r := hr.1
  have h0 : 0 ≤ nw * each := Int.mul_nonneg hn.1 (by omega)
  have h1 : nw * each ≤ 420 * each := mul_le_of hn.2 (by omega)
  have h3 := h.2.2.1
  exact ⟨_, _, _, w64 rfl (by omega), w64 rfl (by omega), rfl, by omega, hin.1, hin.2, by omega⟩
set_option maxHeartbeats 8000000 in
set_option maxRecDepth 100000 in
theorem quotaBound_walk (a0 b0 : Int) (vc : Value) (costs : List Int) (vs : Value) (steps : List Int) (W : World) (hC : ZsP W vc costs) (hS : ZsP W vs steps) : Calls Try.prog 4 #[.int .i64 a0, .int .i64 b0, vc, vs] W fun e w' => e = .returned (.bool true) ∧ Below W.heap.size W w' := by
  obtain ⟨ca, cc, rfl, -⟩ := id hC
  obtain ⟨sa, sc, rfl, -⟩ := id hS
  have HC := Lib.hid hC
  have HS := Lib.hid hS
  obtain ⟨N, hN⟩ : ∃ N, N = costs.length := ⟨_, rfl⟩
  obtain ⟨K, hK⟩ : ∃ K, K = steps.length := ⟨_, rfl⟩
  have HNN := Lib.hid hN
  have HKK := Lib.hid hK
  rw [← hN, ← hK]
  rw [← hN] at HC
  rw [← hK] at HS
  clear hC hS hN hK
  have HAW := Lib.hid (fun w => awake24_any w)
  have HRT := Lib.hid (fun w => rate_any a0 b0 w)
  go_enter Try.func4, Try.ntmps4
  go_wp2_with fail
  refine (HRT.out W).mono ?_
  rintro e w1 ⟨each, most, rfl, hr, he20, hm300, hb1⟩
  have HR := Lib.hid hr
  have HB1 := Lib.hid hb1
  have HE := Lib.hid (show each ≤ 20 ∧ most ≤ 300 from ⟨he20, hm300⟩)
  clear hr he20 hm300 hb1
  go_wp2_with fail
  refine (qnew_any HR.out _).mono ?_
  rintro e w2 ⟨rfl, hq2, hb2⟩
  obtain ⟨rb, hrb⟩ : ∃ rb, rb = w1.heap.size := ⟨_, rfl⟩
  simp only [World.size_alloc] at hq2 ⊢
  rw [← hrb] at hq2 ⊢
  have H2 := Lib.hid (show Ql W rb (rb + 1 + 2) (rb + 1 + 1) each most [] w2 from ⟨(Mem.newAt w1 Trt [iv each, iv most] hrb).below hb2 (by rw [World.size_alloc]; omega), hq2, by have := HB1.out.size; omega, belowThen (belowThen HB1.out (belowSelf w1 _)) hb2⟩)
  obtain ⟨q, hq⟩ : ∃ q, q = rb + 1 + 2 := ⟨_, rfl⟩
  obtain ⟨b, hb⟩ : ∃ b, b = rb + 1 + 1 := ⟨_, rfl⟩
  rw [← hq, ← hb] at H2
  rw [← hq]
  clear hq2 hb2 hrb hq hb
  go_wp2_with fail
  refine (HAW.out w2).mono ?_
  rintro e w3 ⟨rfl, hb3⟩
  have H3 := Lib.hid (H2.out.on hb3)
  clear hb3 H2
  go_wp2_with fail
  go_loopw [12, 13, 14] (fun t g s wr => ∃ (i : Nat) (nw got : Int) (T : SHt), i ≤ N ∧ i ≤ 60 ∧ t = iv nw ∧ g = iv got ∧ s = .int .i64 i ∧ Hid (0 ≤ nw ∧ nw ≤ 7 * (i : Int)) ∧ Hid (BQ each most T nw got) ∧ Hid (T.length ≤ i) ∧ Hid (Ql W rb q b each most T wr)) (fun _ _ s _ => 60 - (intOf s).toNat)
  case atStart => exact ⟨0, 0, 0, [], by omega, by omega, rfl, rfl, rfl, Lib.hid (by omega), Lib.hid (bq_nil _ _), Lib.hid (by simp), H3⟩
  case round =>
    obtain ⟨i, nw, got, T, hi, hi2, rfl, rfl, rfl, HNW, HBQ, HTL, HQ⟩ := hrel
    clear H3
    by_cases hlt : i < N ∧ i < 60
    · have hd1 : decide ((i : Int) < (N : Int)) = true := by simp; omega
      have hd2 : decide ((i : Int) < 60) = true := by simp; omega
      have hd3 : (i : Int) < (N : Int) := by omega
      have hd4 : (i : Int) < 60 := by omega
      have hi0 : (0 : Int) ≤ (i : Int) := by omega
      obtain ⟨cg, coff, rfl, hcc⟩ := (HC.out.at HQ.out.bel) i (by rw [← HNN.out]; exact hlt.1)
      obtain ⟨c0, hc0⟩ : ∃ c, c = costs.getD i 0 := ⟨_, rfl⟩
      rw [← hc0] at hcc
      have mc := i64_mask c0 8 (by omega)
      simp only [Nat.reducePow, Nat.reduceSub, Int.cast_ofNat_Int] at mc
      obtain ⟨c, hc, hcin⟩ : ∃ c : Int, c0 % 256 = c ∧ 0 ≤ c ∧ c < 256 := ⟨_, rfl, by omega, by omega⟩
      rw [hc] at mc
      have HCI := Lib.hid hcin
      clear hc hcin hc0
      by_cases hik : i < K
      · have hk1 : decide ((i : Int) < (K : Int)) = true := by simp; omega
        have hk2 : (i : Int) < (K : Int) := by omega
        obtain ⟨sg, soff, rfl, hsc⟩ := (HS.out.at HQ.out.bel) i (by rw [← HKK.out]; exact hik)
        obtain ⟨s0, hs0⟩ : ∃ c, c = steps.getD i 0 := ⟨_, rfl⟩
        rw [← hs0] at hsc
        have ms := i64_mask s0 3 (by omega)
        simp only [Nat.reducePow, Nat.reduceSub, Int.cast_ofNat_Int] at ms
        obtain ⟨d, hd, hdin⟩ : ∃ c : Int, s0 % 8 = c ∧ 0 ≤ c ∧ c ≤ 7 := ⟨_, rfl, by omega, by omega⟩
        rw [hd] at ms
        obtain ⟨n2, hn2⟩ : ∃ n, nw + d = n := ⟨_, rfl⟩
        obtain ⟨wn, wn'⟩ := w64 hn2 (by have := HNW.out; omega)
        have HBQ2 := Lib.hid (show BQ each most T n2 got from hn2 ▸ HBQ.out.time HR.out hdin.1)
        have HN2 := Lib.hid (show 0 ≤ n2 ∧ n2 ≤ 7 * ((i : Int) + 1) from by have := HNW.out; omega)
        clear hn2 hdin hd hs0 HBQ HNW
        have ht := HQ.out.take (n := 5) (cost := c) (now := n2) (in64_of (by omega)) (by have := HN2.out; omega) (by have := HTL.out; omega)
        have HT := Lib.hid ht
        have HUQ := Lib.hid HQ.out.v.uq
        have HOK := Lib.hid HQ.out.v.ok
        clear ht
        go_wp2_with fail
        refine HT.out.mono ?_
        rintro e w5 ⟨rfl, h5, -⟩
        have H5 := Lib.hid h5
        clear h5 HT HQ hcc
        have HL5 := Lib.hid (show (takeQ each most T 5 c n2).length ≤ i + 1 from Nat.le_trans (length_take HUQ.out 5 c n2) (Nat.succ_le_succ HTL.out))
        cases hok : okQ each most T 5 c n2 with
        | true =>
          have HB5 := Lib.hid (HBQ2.out.yes (c := c) HR.out HOK.out HUQ.out HN2.out.1 hok)
          obtain ⟨T5, hT5⟩ : ∃ T5, T5 = takeQ each most T 5 c n2 := ⟨_, rfl⟩
          rw [← hT5] at H5 HB5 HL5
          have hg100 : got ≤ 100000 := by
            obtain ⟨_, _, _, _, _, _, _, _, _, h⟩ := HBQ2.out.see HR.out HOK.out HE.out (by have := HN2.out; omega)
            exact h
          obtain ⟨g5, hg5⟩ : ∃ g5, got + c = g5 := ⟨_, rfl⟩
          obtain ⟨wg, wg'⟩ := w64 hg5 (by have := HCI.out; have := HBQ2.out.2.2.2; omega)
          rw [hg5] at HB5
          clear hok hT5 hg100 hg5 HBQ2 HTL HUQ HOK
          go_wp2_with fail
          obtain ⟨P, S, Y, ⟨p1, p1'⟩, ⟨p2, p2'⟩, hY, y1, y2, y3, -⟩ := HB5.out.see HR.out H5.out.v.ok HE.out (by have := HN2.out; omega)
          have y1' : ¬ g5 > S := by omega
          have y2' : ¬ Y < 0 := by omega
          have y3' : ¬ Y > most := by omega
          have z1 : decide (g5 > S) = false := by simpa using y1
          have z2 : decide (Y < 0) = false := by simpa using y2
          have z3 : decide (Y > most) = false := by simpa using y3
          have HHS := Lib.hid (fun p : Bw w5 => show Calls Try.prog 14 #[.pointer (some ⟨q, 0, none⟩), iv 5, iv n2] p.W fun e w' => e = .returned (iv Y) ∧ Below p.W.heap.size p.W w' from by
            have := (H5.out.on p.h).has (n := 5) (now := n2) (in64_of (by omega)) (by have := HN2.out; omega)
            rwa [hY] at this)
          have HC0 := Lib.hid (fun p : Bw w5 => show p.W.cell? ⟨rb, 0, none⟩ = some (iv each) from (H5.out.on p.h).r.cell 0)
          have HC1 := Lib.hid (fun p : Bw w5 => show p.W.cell? ⟨rb, 1, none⟩ = some (iv most) from (H5.out.on p.h).r.cell 1)
          have hc0 := HC0.out
          have hc1 := HC1.out
          clear hY
          refine wp_region_bw (by kernel_rfl) (by kernel_rfl) ?_
          iterate 10 (quiet_step (fail))
          iterate 13 (go_big_quiet_step ((go_at_call 14; rename_i p; exact Bw.call (HHS.out p))))
          refine wpQuiet_nil ?_
          rintro _ ⟨p, rfl⟩
          have HQE := Lib.hid (H5.out.on p.h)
          clear hc0 hc1 HC0 HC1 HHS H5
          go_wp2_with fail
          go_roundw
          case rel => exact ⟨i + 1, n2, g5, T5, by omega, by omega, rfl, rfl, by go_num, HN2, HB5, HL5, HQE⟩
          case measure => simp [intOf]; omega
        | false =>
          have HB5 := Lib.hid (HBQ2.out.no hok)
          obtain ⟨T5, hT5⟩ : ∃ T5, T5 = takeQ each most T 5 c n2 := ⟨_, rfl⟩
          rw [← hT5] at H5 HB5 HL5
          obtain ⟨g5, hg5⟩ : ∃ g5, got = g5 := ⟨_, rfl⟩
          rw [hg5] at HB5
          rw [hg5]
          clear hok hT5 hg5 HBQ2 HTL HUQ HOK
          go_wp2_with fail
          obtain ⟨P, S, Y, ⟨p1, p1'⟩, ⟨p2, p2'⟩, hY, y1, y2, y3, -⟩ := HB5.out.see HR.out H5.out.v.ok HE.out (by have := HN2.out; omega)
          have y1' : ¬ g5 > S := by omega
          have y2' : ¬ Y < 0 := by omega
          have y3' : ¬ Y > most := by omega
          have z1 : decide (g5 > S) = false := by simpa using y1
          have z2 : decide (Y < 0) = false := by simpa using y2
          have z3 : decide (Y > most) = false := by simpa using y3
          have HHS := Lib.hid (fun p : Bw w5 => show Calls Try.prog 14 #[.pointer (some ⟨q, 0, none⟩), iv 5, iv n2] p.W fun e w' => e = .returned (iv Y) ∧ Below p.W.heap.size p.W w' from by
            have := (H5.out.on p.h).has (n := 5) (now := n2) (in64_of (by omega)) (by have := HN2.out; omega)
            rwa [hY] at this)
          have HC0 := Lib.hid (fun p : Bw w5 => show p.W.cell? ⟨rb, 0, none⟩ = some (iv each) from (H5.out.on p.h).r.cell 0)
          have HC1 := Lib.hid (fun p : Bw w5 => show p.W.cell? ⟨rb, 1, none⟩ = some (iv most) from (H5.out.on p.h).r.cell 1)
          have hc0 := HC0.out
          have hc1 := HC1.out
          clear hY
          refine wp_region_bw (by kernel_rfl) (by kernel_rfl) ?_
          iterate 10 (quiet_step (fail))
          iterate 13 (go_big_quiet_step ((go_at_call 14; rename_i p; exact Bw.call (HHS.out p))))
          refine wpQuiet_nil ?_
          rintro _ ⟨p, rfl⟩
          have HQE := Lib.hid (H5.out.on p.h)
          clear hc0 hc1 HC0 HC1 HHS H5
          go_wp2_with fail
          go_roundw
          case rel => exact ⟨i + 1, n2, g5, T5, by omega, by omega, rfl, rfl, by go_num, HN2, HB5, HL5, HQE⟩
          case measure => simp [intOf]; omega
      · have hk1 : decide ((i : Int) < (K : Int)) = false := by simp; omega
        have hk2 : ¬ (i : Int) < (K : Int) := by omega
        obtain ⟨n2, hn2⟩ : ∃ n, nw = n := ⟨_, rfl⟩
        rw [hn2]
        have HBQ2 := Lib.hid (show BQ each most T n2 got from hn2 ▸ HBQ.out)
        have HN2 := Lib.hid (show 0 ≤ n2 ∧ n2 ≤ 7 * ((i : Int) + 1) from by have := HNW.out; omega)
        clear hn2 HBQ HNW
        have ht := HQ.out.take (n := 5) (cost := c) (now := n2) (in64_of (by omega)) (by have := HN2.out; omega) (by have := HTL.out; omega)
        have HT := Lib.hid ht
        have HUQ := Lib.hid HQ.out.v.uq
        have HOK := Lib.hid HQ.out.v.ok
        clear ht
        go_wp2_with fail
        refine HT.out.mono ?_
        rintro e w5 ⟨rfl, h5, -⟩
        have H5 := Lib.hid h5
        clear h5 HT HQ hcc
        have HL5 := Lib.hid (show (takeQ each most T 5 c n2).length ≤ i + 1 from Nat.le_trans (length_take HUQ.out 5 c n2) (Nat.succ_le_succ HTL.out))
        cases hok : okQ each most T 5 c n2 with
        | true =>
          have HB5 := Lib.hid (HBQ2.out.yes (c := c) HR.out HOK.out HUQ.out HN2.out.1 hok)
          obtain ⟨T5, hT5⟩ : ∃ T5, T5 = takeQ each most T 5 c n2 := ⟨_, rfl⟩
          rw [← hT5] at H5 HB5 HL5
          have hg100 : got ≤ 100000 := by
            obtain ⟨_, _, _, _, _, _, _, _, _, h⟩ := HBQ2.out.see HR.out HOK.out HE.out (by have := HN2.out; omega)
            exact h
          obtain ⟨g5, hg5⟩ : ∃ g5, got + c = g5 := ⟨_, rfl⟩
          obtain ⟨wg, wg'⟩ := w64 hg5 (by have := HCI.out; have := HBQ2.out.2.2.2; omega)
          rw [hg5] at HB5
          clear hok hT5 hg100 hg5 HBQ2 HTL HUQ HOK
          go_wp2_with fail
          obtain ⟨P, S, Y, ⟨p1, p1'⟩, ⟨p2, p2'⟩, hY, y1, y2, y3, -⟩ := HB5.out.see HR.out H5.out.v.ok HE.out (by have := HN2.out; omega)
          have y1' : ¬ g5 > S := by omega
          have y2' : ¬ Y < 0 := by omega
          have y3' : ¬ Y > most := by omega
          have z1 : decide (g5 > S) = false := by simpa using y1
          have z2 : decide (Y < 0) = false := by simpa using y2
          have z3 : decide (Y > most) = false := by simpa using y3
          have HHS := Lib.hid (fun p : Bw w5 => show Calls Try.prog 14 #[.pointer (some ⟨q, 0, none⟩), iv 5, iv n2] p.W fun e w' => e = .returned (iv Y) ∧ Below p.W.heap.size p.W w' from by
            have := (H5.out.on p.h).has (n := 5) (now := n2) (in64_of (by omega)) (by have := HN2.out; omega)
            rwa [hY] at this)
          have HC0 := Lib.hid (fun p : Bw w5 => show p.W.cell? ⟨rb, 0, none⟩ = some (iv each) from (H5.out.on p.h).r.cell 0)
          have HC1 := Lib.hid (fun p : Bw w5 => show p.W.cell? ⟨rb, 1, none⟩ = some (iv most) from (H5.out.on p.h).r.cell 1)
          have hc0 := HC0.out
          have hc1 := HC1.out
          clear hY
          refine wp_region_bw (by kernel_rfl) (by kernel_rfl) ?_
          iterate 10 (quiet_step (fail))
          iterate 13 (go_big_quiet_step ((go_at_call 14; rename_i p; exact Bw.call (HHS.out p))))
          refine wpQuiet_nil ?_
          rintro _ ⟨p, rfl⟩
          have HQE := Lib.hid (H5.out.on p.h)
          clear hc0 hc1 HC0 HC1 HHS H5
          go_wp2_with fail
          go_roundw
          case rel => exact ⟨i + 1, n2, g5, T5, by omega, by omega, rfl, rfl, by go_num, HN2, HB5, HL5, HQE⟩
          case measure => simp [intOf]; omega
        | false =>
          have HB5 := Lib.hid (HBQ2.out.no hok)
          obtain ⟨T5, hT5⟩ : ∃ T5, T5 = takeQ each most T 5 c n2 := ⟨_, rfl⟩
          rw [← hT5] at H5 HB5 HL5
          obtain ⟨g5, hg5⟩ : ∃ g5, got = g5 := ⟨_, rfl⟩
          rw [hg5] at HB5
          rw [hg5]
          clear hok hT5 hg5 HBQ2 HTL HUQ HOK
          go_wp2_with fail
          obtain ⟨P, S, Y, ⟨p1, p1'⟩, ⟨p2, p2'⟩, hY, y1, y2, y3, -⟩ := HB5.out.see HR.out H5.out.v.ok HE.out (by have := HN2.out; omega)
          have y1' : ¬ g5 > S := by omega
          have y2' : ¬ Y < 0 := by omega
          have y3' : ¬ Y > most := by omega
          have z1 : decide (g5 > S) = false := by simpa using y1
          have z2 : decide (Y < 0) = false := by simpa using y2
          have z3 : decide (Y > most) = false := by simpa using y3
          have HHS := Lib.hid (fun p : Bw w5 => show Calls Try.prog 14 #[.pointer (some ⟨q, 0, none⟩), iv 5, iv n2] p.W fun e w' => e = .returned (iv Y) ∧ Below p.W.heap.size p.W w' from by
            have := (H5.out.on p.h).has (n := 5) (now := n2) (in64_of (by omega)) (by have := HN2.out; omega)
            rwa [hY] at this)
          have HC0 := Lib.hid (fun p : Bw w5 => show p.W.cell? ⟨rb, 0, none⟩ = some (iv each) from (H5.out.on p.h).r.cell 0)
          have HC1 := Lib.hid (fun p : Bw w5 => show p.W.cell? ⟨rb, 1, none⟩ = some (iv most) from (H5.out.on p.h).r.cell 1)
          have hc0 := HC0.out
          have hc1 := HC1.out
          clear hY
          refine wp_region_bw (by kernel_rfl) (by kernel_rfl) ?_
          iterate 10 (quiet_step (fail))
          iterate 13 (go_big_quiet_step ((go_at_call 14; rename_i p; exact Bw.call (HHS.out p))))
          refine wpQuiet_nil ?_
          rintro _ ⟨p, rfl⟩
          have HQE := Lib.hid (H5.out.on p.h)
          clear hc0 hc1 HC0 HC1 HHS H5
          go_wp2_with fail
          go_roundw
          case rel => exact ⟨i + 1, n2, g5, T5, by omega, by omega, rfl, rfl, by go_num, HN2, HB5, HL5, HQE⟩
          case measure => simp [intOf]; omega
    · have hn : (decide ((i : Int) < (N : Int)) = false ∧ ¬ (i : Int) < (N : Int)) ∨ (decide ((i : Int) < (N : Int)) = true ∧ (i : Int) < (N : Int) ∧ decide ((i : Int) < 60) = false ∧ ¬ (i : Int) < 60) := by
        by_cases h : i < N
        · right; exact ⟨by simp; omega, by omega, by simp; omega, by omega⟩
        · left; exact ⟨by simp; omega, by omega⟩
      have hnb := HNW.out
      have HSE := Lib.hid (fun p : Bw wr => show Calls Try.prog 14 #[.pointer (some ⟨q, 0, none⟩), iv 6, iv nw] p.W fun e w' => e = .returned (iv most) ∧ Below p.W.heap.size p.W w' from by
        have := (HQ.out.on p.h).has (n := 6) (now := nw) (in64_of (by omega)) (by omega)
        rwa [show hasQ each most T 6 nw = most from by unfold hasQ; rw [HBQ.out.1]] at this)
      have HC1 := Lib.hid (fun p : Bw wr => show p.W.cell? ⟨rb, 1, none⟩ = some (iv most) from (HQ.out.on p.h).r.cell 1)
      have HBE := Lib.hid HQ.out.bel
      clear hnb
      rcases hn with ⟨e1, e2⟩ | ⟨e1, e2, e3, e4⟩
      all_goals
        go_wp2_with fail
        have hc1 := HC1.out
        refine wp_region_bw (by kernel_rfl) (by kernel_rfl) ?_
        repeat (quiet_step ((go_at_call 14; rename_i p; exact Bw.call (HSE.out p))))
        refine wpQuiet_nil ?_
        rintro _ ⟨p, rfl⟩
        have HBP := Lib.hid (belowThen HBE.out p.h)
        clear hc1
        go_wp2_with fail
        go_ret
        exact ⟨rfl, HBP.out⟩
end Go.Proofs.Ytbodoodgdojgoaa
