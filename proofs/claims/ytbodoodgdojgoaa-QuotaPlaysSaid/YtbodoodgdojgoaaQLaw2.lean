/-
  QuotaFull: the walk.
-/
import Derived.Test.YtbodoodgdojgoaaQuo3
namespace Go.Proofs.Ytbodoodgdojgoaa
open Go.RowKit Go.Maps Crv

theorem full_take {each most now : Int} (hr : RtQ each most) (hn : 0 ≤ now) : okQ each most [] 1 most now = true ∧ takeQ each most [] 1 most now = [(1, (0, now))] := by
  have h1 : okQ each most [] 1 most now = true := by
    unfold okQ hasQ getK
    have := hr.1
    have := hr.2.1
    simp
    omega
  refine ⟨h1, ?_⟩
  unfold takeQ
  rw [h1, if_pos rfl]
  unfold hasQ dateQ getK Enc.set delK Enc.ins
  simp
  omega
theorem full_has {each most now d : Int} : hasQ each most [(1, (0, now))] 1 (now + d) = min (min (max d 0) most * each) most := by
  unfold hasQ getK growQ
  simp only [List.find?_cons, decide_true, Option.map_some]
  rw [show max (now + d) now - now = max d 0 by omega, Int.zero_add]
theorem full_no {each most now m : Int} (hr : RtQ each most) (hm : m ≤ now) : hasQ each most [(1, (0, now))] 1 m = 0 := by
  have := full_has (each := each) (most := most) (now := now) (d := m - now)
  rw [show now + (m - now) = m by omega, show max (m - now) 0 = 0 by omega, show min 0 most = 0 by have := hr.1; have := hr.2.1; omega, Int.zero_mul] at this
  rw [this]
  have := hr.1
  have := hr.2.1
  omega
theorem full_all {each most now N d : Int} (hr : RtQ each most) (h1 : most ≤ N * each) (h2 : N ≤ most) (h4 : N ≤ d) : hasQ each most [(1, (0, now))] 1 (now + d) = most := by
  rw [full_has]
  have : N * each ≤ min (max d 0) most * each := mul_le_of (by omega) (by have := hr.1; omega)
  omega
theorem full_need {each most : Int} (hr : RtQ each most) : ∃ N : Int, (most + each - 1).tdiv each = N ∧ 1 ≤ N ∧ N ≤ most ∧ most ≤ N * each ∧ (N - 1) * each < most := by
  obtain ⟨r1, r2, r3⟩ := hr
  refine ⟨_, rfl, ?_⟩
  rw [Int.tdiv_eq_ediv_of_nonneg (by omega)]
  have e := Int.mul_ediv_add_emod (most + each - 1) each
  have m0 := Int.emod_nonneg (most + each - 1) (show each ≠ 0 by omega)
  have m1 := Int.emod_lt_of_pos (most + each - 1) (show 0 < each by omega)
  obtain ⟨N, hN⟩ : ∃ N, N = (most + each - 1) / each := ⟨_, rfl⟩
  rw [← hN] at e ⊢
  rw [Int.mul_comm] at e
  have h1 : 1 ≤ N := by
    rcases Int.lt_or_le N 1 with h | h
    · have : N * each ≤ 0 * each := mul_le_of (by omega) (by omega)
      omega
    · exact h
  have e2 : (N - 1) * each = N * each - each := by rw [Int.sub_mul, Int.one_mul]
  refine ⟨h1, ?_, by omega, by omega⟩
  rcases Int.lt_or_le most N with h | h
  · have k1 : (most + 1) * each ≤ N * each := mul_le_of (by omega) (by omega)
    have k2 : (most + 1) * each = most * each + each := by rw [Int.add_mul, Int.one_mul]
    have k3 : most * 1 ≤ most * each := Int.mul_le_mul_of_nonneg_left r1 (by omega)
    omega
  · exact h
theorem w64 {x y : Int} (h : x = y) (hb : -9223372036854775808 ≤ x ∧ x ≤ 9223372036854775807) : wrap64 x = y ∧ IntKind.i64.wrap x = y := ⟨(IntWalk.wrap64_in _ (by omega)).trans h, (IntWalk.i64_in _ (by omega)).trans h⟩
theorem full_nums {each most now : Int} (hr : RtQ each most) (he : each ≤ 20 ∧ most ≤ 300) (hn : 0 ≤ now ∧ now < 100000) : ∃ s1 s2 N a1 a2 n9 a3 k1 X m1 : Int,
    (wrap64 (most + each) = s1 ∧ IntKind.i64.wrap (most + each) = s1) ∧ (wrap64 (s1 - 1) = s2 ∧ IntKind.i64.wrap (s1 - 1) = s2) ∧ s2.tdiv each = N ∧
    (wrap64 (now + N) = a1 ∧ IntKind.i64.wrap (now + N) = a1) ∧ (wrap64 (a1 - 1) = a2 ∧ IntKind.i64.wrap (a1 - 1) = a2) ∧ (wrap64 (9 * N) = n9 ∧ IntKind.i64.wrap (9 * N) = n9) ∧ (wrap64 (now + n9) = a3 ∧ IntKind.i64.wrap (now + n9) = a3) ∧
    (wrap64 (N - 1) = k1 ∧ IntKind.i64.wrap (N - 1) = k1) ∧ (wrap64 (k1 * each) = X ∧ IntKind.i64.wrap (k1 * each) = X) ∧ (wrap64 (now - 1) = m1 ∧ IntKind.i64.wrap (now - 1) = m1) ∧ (wrap64 N = N ∧ IntKind.i64.wrap N = N) ∧
    X < most ∧ (each == 0) = false ∧ ¬ each = 0 ∧ ((m1 < 0 ∨ (0 ≤ m1 ∧ m1 ≤ now ∧ m1 ≤ 100000)) ∧ 0 ≤ now) ∧
    hasQ each most [(1, (0, now))] 1 a1 = most ∧ hasQ each most [(1, (0, now))] 1 a2 = X ∧ hasQ each most [(1, (0, now))] 1 a3 = most ∧ (0 ≤ a1 ∧ a1 ≤ 1099511627776) ∧ (0 ≤ a2 ∧ a2 ≤ 1099511627776) ∧ (0 ≤ a3 ∧ a3 ≤ 1099511627776) := by
  obtain ⟨N, hN, n1, n2, n3, n4⟩ := full_need hr
  have hr0 := hr
  obtain ⟨r1, r2, r3⟩ := hr
  have hX0 : 0 ≤ (N - 1) * each := Int.mul_nonneg (by omega) (by omega)
  have v1 := full_all (now := now) hr0 n3 n2 (Int.le_refl _)
  have v2 : hasQ each most [(1, (0, now))] 1 (now + N - 1) = (N - 1) * each := by
    rw [show now + N - 1 = now + (N - 1) by omega, full_has, show max (N - 1) 0 = N - 1 by omega, show min (N - 1) most = N - 1 by omega]
    omega
  have v3 := full_all (now := now) (d := 9 * N) hr0 n3 n2 (by omega)
  refine ⟨most + each, most + each - 1, N, now + N, now + N - 1, 9 * N, now + 9 * N, N - 1, (N - 1) * each, now - 1, w64 rfl (by omega), w64 rfl (by omega), hN, w64 rfl (by omega), w64 rfl (by omega), w64 rfl (by omega), w64 rfl (by omega), w64 rfl (by omega), w64 rfl (by omega), w64 rfl (by omega), w64 rfl (by omega), n4, ?_, by omega, by omega, v1, v2, v3, by omega, by omega, by omega⟩
  simp; omega
set_option maxHeartbeats 4000000 in
set_option maxRecDepth 100000 in
theorem quotaFull_walk (a0 b0 n0 : Int) (W : World) : Calls Try.prog 7 #[.int .i64 a0, .int .i64 b0, .int .i64 n0] W fun e w' => e = .returned (.bool true) ∧ Below W.heap.size W w' := by
  have HAW := Lib.hid (fun w => awake24_any w)
  have HRT := Lib.hid (fun w => rate_any a0 b0 w)
  have HTK := Lib.hid (fun w => tick_any n0 w)
  go_enter Try.func7, Try.ntmps7
  go_wp2_with fail
  refine (HRT.out W).mono ?_
  rintro e w1 ⟨each, most, rfl, hr, he20, hm300, hb1⟩
  have HR := Lib.hid hr
  have HB1 := Lib.hid hb1
  have HE := Lib.hid (show each ≤ 20 ∧ most ≤ 300 from ⟨he20, hm300⟩)
  clear hr he20 hm300 hb1
  go_wp2_with fail
  refine (qnew_any HR.out _).mono ?_
  rintro e w2 ⟨rfl, hq2, hb2⟩
  obtain ⟨rb, hrb⟩ : ∃ rb, rb = w1.heap.size := ⟨_, rfl⟩
  simp only [World.size_alloc] at hq2 ⊢
  rw [← hrb] at hq2 ⊢
  have H2 := Lib.hid (show Ql W rb (rb + 1 + 2) (rb + 1 + 1) each most [] w2 from ⟨(Mem.newAt w1 Trt [iv each, iv most] hrb).below hb2 (by rw [World.size_alloc]; omega), hq2, by have := HB1.out.size; omega, belowThen (belowThen HB1.out (belowSelf w1 _)) hb2⟩)
  obtain ⟨q, hq⟩ : ∃ q, q = rb + 1 + 2 := ⟨_, rfl⟩
  obtain ⟨b, hb⟩ : ∃ b, b = rb + 1 + 1 := ⟨_, rfl⟩
  rw [← hq, ← hb] at H2
  rw [← hq]
  clear hq2 hb2 hrb hq hb
  go_wp2_with fail
  refine (HAW.out w2).mono ?_
  rintro e w3 ⟨rfl, hb3⟩
  have H3 := Lib.hid (H2.out.on hb3)
  clear hb3 H2
  go_wp2_with fail
  refine (HTK.out w3).mono ?_
  rintro e _ ⟨now, hn0, hn1, rfl, rfl⟩
  have HN := Lib.hid (show 0 ≤ now ∧ now < 100000 from ⟨hn0, hn1⟩)
  have c0 := H3.out.r.cell 0
  have c1 := H3.out.r.cell 1
  simp only [List.getElem?_cons_zero, List.getElem?_cons_succ] at c0 c1
  clear hn0 hn1
  go_wp2_with fail
  have ht := H3.out.take (n := 1) (cost := most) (now := now) (in64_of (by omega)) (by have := HN.out; omega) (by simp)
  rw [(full_take HR.out HN.out.1).1, (full_take HR.out HN.out.1).2] at ht
  refine ht.mono ?_
  rintro e w4 ⟨rfl, h4, -⟩
  have H4 := Lib.hid h4
  clear ht h4 H3 c0 c1
  go_wp2_with fail
  have ht := H4.out.has (n := 1) (now := now) (in64_of (by omega)) (by have := HN.out; omega)
  rw [full_no HR.out (Int.le_refl _)] at ht
  refine ht.mono ?_
  rintro e w5 ⟨rfl, hb5⟩
  have H5 := Lib.hid (H4.out.on hb5)
  clear ht hb5 H4
  go_wp2_with fail
  have ht := H5.out.take (n := 1) (cost := 1) (now := now) (in64_of (by omega)) (by have := HN.out; omega) (by simp)
  have hno : okQ each most [(1, (0, now))] 1 1 now = false := by unfold okQ; rw [full_no HR.out (Int.le_refl _)]; rfl
  have hno2 : takeQ each most [(1, (0, now))] 1 1 now = [(1, (0, now))] := takeQ_no hno
  rw [hno, hno2] at ht
  refine ht.mono ?_
  rintro e w6 ⟨rfl, h6, -⟩
  have H6 := Lib.hid h6
  have c0 := h6.r.cell 0
  have c1 := h6.r.cell 1
  simp only [List.getElem?_cons_zero, List.getElem?_cons_succ] at c0 c1
  clear ht h6 hno hno2 H5
  obtain ⟨s1, s2, N, a1, a2, n9, a3, k1, X, m1, ⟨f1, f1'⟩, ⟨f2, f2'⟩, hN, ⟨g1, g1'⟩, ⟨g2, g2'⟩, ⟨g3, g3'⟩, ⟨g4, g4'⟩, ⟨g5, g5'⟩, ⟨g6, g6'⟩, ⟨g7, g7'⟩, ⟨f3, f3'⟩, xm, he0, he1, hm1, hh1, hh2, hh3, i1, i2, i3⟩ := full_nums HR.out HE.out HN.out
  have HH1 := Lib.hid (fun p : Bw w6 => show Calls Try.prog 14 #[.pointer (some ⟨q, 0, none⟩), iv 1, iv a1] p.W fun e w' => e = .returned (iv most) ∧ Below p.W.heap.size p.W w' from by
    have := (H6.out.on p.h).has (n := 1) (now := a1) (in64_of (by omega)) i1
    rwa [hh1] at this)
  have HH2 := Lib.hid (fun p : Bw w6 => show Calls Try.prog 14 #[.pointer (some ⟨q, 0, none⟩), iv 1, iv a2] p.W fun e w' => e = .returned (iv X) ∧ Below p.W.heap.size p.W w' from by
    have := (H6.out.on p.h).has (n := 1) (now := a2) (in64_of (by omega)) i2
    rwa [hh2] at this)
  have HH3 := Lib.hid (fun p : Bw w6 => show Calls Try.prog 14 #[.pointer (some ⟨q, 0, none⟩), iv 1, iv a3] p.W fun e w' => e = .returned (iv most) ∧ Below p.W.heap.size p.W w' from by
    have := (H6.out.on p.h).has (n := 1) (now := a3) (in64_of (by omega)) i3
    rwa [hh3] at this)
  have HH4 := Lib.hid (fun (p : Bw w6) (m : Int) (h0 : 0 ≤ m ∧ m ≤ now ∧ m ≤ 100000) => show Calls Try.prog 14 #[.pointer (some ⟨q, 0, none⟩), iv 1, iv m] p.W fun e w' => e = .returned (iv 0) ∧ Below p.W.heap.size p.W w' from by
    have := (H6.out.on p.h).has (n := 1) (now := m) (in64_of (by omega)) ⟨h0.1, by omega⟩
    rwa [full_no HR.out h0.2.1] at this)
  have HC0 := Lib.hid (fun p : Bw w6 => show p.W.cell? ⟨rb, 0, none⟩ = some (iv each) from (H6.out.on p.h).r.cell 0)
  have HC1 := Lib.hid (fun p : Bw w6 => show p.W.cell? ⟨rb, 1, none⟩ = some (iv most) from (H6.out.on p.h).r.cell 1)
  have HM := Lib.hid hm1
  have HB6 := Lib.hid H6.out.bel
  clear hm1 hh1 hh2 hh3 i1 i2 i3
  go_wp2_with fail
  rcases HM.out.1 with hneg | hpos
  · have hneg2 : ¬ 0 ≤ m1 := by omega
    have HZ := Lib.hid (show (0 : Int) ≤ 0 ∧ 0 ≤ now ∧ (0 : Int) ≤ 100000 from ⟨Int.le_refl _, HM.out.2, by omega⟩)
    have hc0 := HC0.out
    have hc1 := HC1.out
    refine wp_region_bw (by kernel_rfl) (by kernel_rfl) ?_
    iterate 9 (quiet_step ((go_at_call 14; rename_i p; exact Bw.call (HH1.out p))))
    iterate 6 (go_big_quiet_step ((go_at_call 14; rename_i p; exact Bw.call (HH2.out p))))
    iterate 17 (go_big_quiet_step ((go_at_call 14; rename_i p; exact Bw.call (HH3.out p))))
    iterate 10 (go_big_quiet_step ((go_at_call 14; rename_i p; exact Bw.call (HH4.out p _ HZ.out))))
    iterate 3 (go_big_quiet_step (fail))
    refine wpQuiet_nil ?_
    rintro _ ⟨p, rfl⟩
    have HBP := Lib.hid (belowThen HB6.out p.h)
    clear hc0 hc1
    go_wp2_with fail
    go_ret
    exact ⟨rfl, HBP.out⟩
  · have HZ := Lib.hid hpos
    have hneg2 : 0 ≤ m1 := hpos.1
    have hneg3 : ¬ m1 < 0 := by omega
    clear hpos
    have hc0 := HC0.out
    have hc1 := HC1.out
    refine wp_region_bw (by kernel_rfl) (by kernel_rfl) ?_
    iterate 9 (quiet_step ((go_at_call 14; rename_i p; exact Bw.call (HH1.out p))))
    iterate 6 (go_big_quiet_step ((go_at_call 14; rename_i p; exact Bw.call (HH2.out p))))
    iterate 17 (go_big_quiet_step ((go_at_call 14; rename_i p; exact Bw.call (HH3.out p))))
    iterate 10 (go_big_quiet_step ((go_at_call 14; rename_i p; exact Bw.call (HH4.out p _ HZ.out))))
    iterate 3 (go_big_quiet_step (fail))
    refine wpQuiet_nil ?_
    rintro _ ⟨p, rfl⟩
    have HBP := Lib.hid (belowThen HB6.out p.h)
    clear hc0 hc1
    go_wp2_with fail
    go_ret
    exact ⟨rfl, HBP.out⟩
end Go.Proofs.Ytbodoodgdojgoaa
