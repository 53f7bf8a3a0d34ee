/-
  Quota: a rate, a tick; a quota that a law has made; what the laws look at first; QuotaRates: the walk.
-/
import Derived.Test.YtbodoodgdojgoaaQuo2
import Derived.Test.YtbodoodgdojgoaaZp
namespace Go.Proofs.Ytbodoodgdojgoaa
open Go.RowKit Go.Maps Crv

abbrev Trt : TypeId := 24
theorem qnew_bad {each most : Int} (hr : ¬ RtQ each most) (w : World) : Calls Try.prog 9 #[.agg #[iv each, iv most]] w fun e w' => e = .returned (.tuple #[.pointer none, iv 10]) ∧ Below w.heap.size w w' := by
  rcases (show each < 1 ∨ (¬ each < 1 ∧ most < each) ∨ (¬ each < 1 ∧ ¬ most < each ∧ most > 1048576) by unfold RtQ at hr; omega) with h1 | ⟨h1, h2⟩ | ⟨h1, h2, h3⟩
  · have d1 : decide (each < 1) = true := by simpa using h1
    clear hr
    go_enter Try.func9, Try.ntmps9
    go_wp2_with fail
    exact bodyPost_ret (results_tmp2 rfl _ _ _) rfl ⟨rfl, belowSelf w _⟩
  · have d1 : decide (each < 1) = false := by simpa using h1
    have d2 : decide (most < each) = true := by simpa using h2
    clear hr
    go_enter Try.func9, Try.ntmps9
    go_wp2_with fail
    exact bodyPost_ret (results_tmp2 rfl _ _ _) rfl ⟨rfl, belowSelf w _⟩
  · have d1 : decide (each < 1) = false := by simpa using h1
    have d2 : decide (most < each) = false := by simpa using h2
    have d3 : decide (most > 1048576) = true := by simpa using h3
    clear hr
    go_enter Try.func9, Try.ntmps9
    go_wp2_with fail
    exact bodyPost_ret (results_tmp2 rfl _ _ _) rfl ⟨rfl, belowSelf w _⟩
theorem tick_num (z : Int) : ∃ o : Int, 0 ≤ o ∧ o < 100000 ∧ (wrap64 (Int.tmod z 100000 + 100000)).tmod 100000 = o := by
  have h1 : -100000 < Int.tmod z 100000 ∧ Int.tmod z 100000 < 100000 := ⟨by have := Int.lt_tmod_of_pos z (show (0 : Int) < 100000 by decide); omega, Int.tmod_lt_of_pos z (by decide)⟩
  rw [IntWalk.wrap64_in _ (by omega)]
  have h2 : (Int.tmod z 100000 + 100000).tmod 100000 = (Int.tmod z 100000 + 100000) % 100000 := Int.tmod_eq_emod_of_nonneg (by omega)
  rw [h2]
  exact ⟨_, by omega, by omega, rfl⟩
theorem tick_any (n : Int) (w : World) : Calls Try.prog 11 #[iv n] w fun e w' => ∃ o : Int, 0 ≤ o ∧ o < 100000 ∧ e = .returned (iv o) ∧ w' = w := by
  obtain ⟨o, h0, h1, ho⟩ := tick_num n
  go_enter Try.func11, Try.ntmps11
  go_wp2_with fail
  go_ret
  exact ⟨o, h0, h1, rfl, rfl⟩
set_option maxRecDepth 100000 in
theorem rate_any (a b : Int) (w : World) : Calls Try.prog 8 #[iv a, iv b] w fun e w' => ∃ each most : Int, e = .returned (.agg #[iv each, iv most]) ∧ RtQ each most ∧ each ≤ 20 ∧ most ≤ 300 ∧ Below w.heap.size w w' := by
  have m1 := i64_mask a 8 (by omega)
  have m2 := i64_mask b 8 (by omega)
  simp only [Nat.reducePow, Nat.reduceSub, Int.cast_ofNat_Int] at m1 m2
  obtain ⟨c, hc, hc2⟩ : ∃ c : Int, a % 256 = c ∧ 0 ≤ c ∧ c < 256 := ⟨_, rfl, by omega, by omega⟩
  obtain ⟨d, hd, hd2⟩ : ∃ d : Int, b % 256 = d ∧ 0 ≤ d ∧ d < 256 := ⟨_, rfl, by omega, by omega⟩
  obtain ⟨f, hf, hf2⟩ : ∃ f : Int, c.tmod 20 = f ∧ 0 ≤ f ∧ f < 20 := ⟨_, rfl, by rw [Int.tmod_eq_emod_of_nonneg hc2.1]; omega, by rw [Int.tmod_eq_emod_of_nonneg hc2.1]; omega⟩
  rw [hc] at m1
  rw [hd] at m2
  have s1 : wrap64 (1 + f) = 1 + f := IntWalk.wrap64_in _ (by omega)
  have s2 : wrap64 (1 + f + d) = 1 + f + d := IntWalk.wrap64_in _ (by omega)
  have s3 : IntKind.i64.wrap (1 + f) = 1 + f := IntWalk.i64_in _ (by omega)
  have s4 : IntKind.i64.wrap (1 + f + d) = 1 + f + d := IntWalk.i64_in _ (by omega)
  go_enter Try.func8, Try.ntmps8
  go_wp2_with fail
  refine bodyPost_ret (results_mem (Mem.new w Trt [iv (1 + f), iv (1 + f + d)]) rfl _ _ rfl Try.underlying24 rfl (by kernel_rfl)) rfl ?_
  exact ⟨_, _, rfl, ⟨by omega, by omega, by omega⟩, by omega, by omega, belowSelf w _⟩
/-- A quota that a law has made since W0, beside its rate. -/
structure Ql (W0 : World) (rb q b : Nat) (each most : Int) (T : SHt) (w : World) : Prop where
  r : Mem w rb Trt [iv each, iv most]
  v : Qv w q b each most T
  hb : W0.heap.size ≤ b
  bel : Below W0.heap.size W0 w
section
variable {W0 w w' : World} {rb q b : Nat} {each most : Int} {T : SHt}
theorem Ql.on (h : Ql W0 rb q b each most T w) (hb : Below w.heap.size w w') : Ql W0 rb q b each most T w' := ⟨h.r.below hb h.r.lt, h.v.below hb, h.hb, belowThen h.bel hb⟩
theorem Ql.apart (h : Ql W0 rb q b each most T w) : rb ≠ b := by
  rintro rfl
  obtain ⟨es, cl, hb⟩ := MpS.block h.v.t
  have := h.r
  unfold Mem at this
  rw [hb] at this
  cases this
theorem Ql.has (h : Ql W0 rb q b each most T w) {n now : Int} (hn : In64 n) (hw : 0 ≤ now ∧ now ≤ 1099511627776) : Calls Try.prog 14 #[.pointer (some ⟨q, 0, none⟩), iv n, iv now] w fun e w' => e = .returned (iv (hasQ each most T n now)) ∧ Below w.heap.size w w' := has_any h.v hn hw
theorem Ql.take (h : Ql W0 rb q b each most T w) {n cost now : Int} (hn : In64 n) (hw : 0 ≤ now ∧ now ≤ 1099511627776) (hl : T.length < 100000) : Calls Try.prog 12 #[.pointer (some ⟨q, 0, none⟩), iv n, iv cost, iv now] w fun e w' =>
    e = .returned (.bool (okQ each most T n cost now)) ∧ Ql W0 rb q b each most (takeQ each most T n cost now) w' ∧ w.grownBy w' (some b) :=
  (take_any h.v hn hw hl).mono fun _ _ q => ⟨q.1, ⟨h.r.grown q.2.2 (fun e => h.apart (by injection e)), q.2.1, h.hb, belowNew h.bel q.2.2 h.hb⟩, q.2.2⟩
/-- What a quota's calls need that has no rate beside it. -/
structure Qa (W0 : World) (q b : Nat) (each most : Int) (T : SHt) (w : World) : Prop where
  v : Qv w q b each most T
  hb : W0.heap.size ≤ b
  bel : Below W0.heap.size W0 w
theorem Qa.on (h : Qa W0 q b each most T w) (hb : Below w.heap.size w w') : Qa W0 q b each most T w' := ⟨h.v.below hb, h.hb, belowThen h.bel hb⟩
theorem Qa.take (h : Qa W0 q b each most T w) {n cost now : Int} (hn : In64 n) (hw : 0 ≤ now ∧ now ≤ 1099511627776) (hl : T.length < 100000) : Calls Try.prog 12 #[.pointer (some ⟨q, 0, none⟩), iv n, iv cost, iv now] w fun e w' =>
    e = .returned (.bool (okQ each most T n cost now)) ∧ Qa W0 q b each most (takeQ each most T n cost now) w' :=
  (take_any h.v hn hw hl).mono fun _ _ q => ⟨q.1, q.2.1, h.hb, belowNew h.bel q.2.2 h.hb⟩
end
theorem rt25 : RtQ 2 5 := ⟨by omega, by omega, by omega⟩
theorem aw24_1 : okQ 2 5 [] 1 5 0 = true := by decide
theorem aw24_t : takeQ 2 5 [] 1 5 0 = [(1, (0, 0))] := by decide
theorem aw24_2 : hasQ 2 5 [(1, (0, 0))] 1 1 = 2 := by decide
theorem aw24_3 : hasQ 2 5 [(1, (0, 0))] 1 9 = 5 := by decide
theorem aw24_4 : okQ 2 5 [(1, (0, 0))] 1 6 9 = false := by decide
set_option maxHeartbeats 1000000 in
set_option maxRecDepth 100000 in
theorem awake24_any (W : World) : Calls Try.prog 10 #[] W fun e w' => e = .returned (.bool true) ∧ Below W.heap.size W w' := by
  have HT := Lib.hid (fun q b w (h : Qa W q b 2 5 [] w) => show Calls Try.prog 12 #[.pointer (some ⟨q, 0, none⟩), iv 1, iv 5, iv 0] w fun e w' => e = .returned (.bool true) ∧ Qa W q b 2 5 [(1, (0, 0))] w' from by
    have := h.take (n := 1) (cost := 5) (now := 0) (in64_of (by omega)) (by omega) (by simp)
    rwa [aw24_1, aw24_t] at this)
  have HH1 := Lib.hid (fun q b w (h : Qa W q b 2 5 [(1, (0, 0))] w) => show Calls Try.prog 14 #[.pointer (some ⟨q, 0, none⟩), iv 1, iv 1] w fun e w' => e = .returned (iv 2) ∧ Below w.heap.size w w' from by
    have := has_any h.v (n := 1) (now := 1) (in64_of (by omega)) (by omega)
    rwa [aw24_2] at this)
  have HH2 := Lib.hid (fun q b w (h : Qa W q b 2 5 [(1, (0, 0))] w) => show Calls Try.prog 14 #[.pointer (some ⟨q, 0, none⟩), iv 1, iv 9] w fun e w' => e = .returned (iv 5) ∧ Below w.heap.size w w' from by
    have := has_any h.v (n := 1) (now := 9) (in64_of (by omega)) (by omega)
    rwa [aw24_3] at this)
  have HT2 := Lib.hid (fun q b w (h : Qa W q b 2 5 [(1, (0, 0))] w) => show Calls Try.prog 12 #[.pointer (some ⟨q, 0, none⟩), iv 1, iv 6, iv 9] w fun e w' => e = .returned (.bool false) ∧ Below W.heap.size W w' from by
    have := h.take (n := 1) (cost := 6) (now := 9) (in64_of (by omega)) (by omega) (by simp)
    rw [aw24_4] at this
    exact this.mono fun _ _ q => ⟨q.1, q.2.bel⟩)
  have HMK := Lib.hid (fun w => qnew_any rt25 w)
  go_enter Try.func10, Try.ntmps10
  go_wp2_with fail
  refine (HMK.out W).mono ?_
  rintro e w1 ⟨rfl, hq1, hb1⟩
  obtain ⟨q, hq⟩ : ∃ q, q = W.heap.size + 2 := ⟨_, rfl⟩
  obtain ⟨b, hb⟩ : ∃ b, b = W.heap.size + 1 := ⟨_, rfl⟩
  have H1 := Lib.hid (show Qa W q b 2 5 [] w1 from ⟨by rw [hq, hb]; exact hq1, by omega, hb1⟩)
  rw [← hq]
  clear hq1 hb1 hq hb
  go_wp2_with fail
  refine (HT.out q b w1 H1.out).mono ?_
  rintro e w2 ⟨rfl, h2⟩
  have H2 := Lib.hid h2
  clear h2 H1
  go_wp2_with fail
  refine (HH1.out q b w2 H2.out).mono ?_
  rintro e w3 ⟨rfl, hb3⟩
  have H3 := Lib.hid (H2.out.on hb3)
  clear hb3 H2
  go_wp2_with fail
  refine (HH2.out q b w3 H3.out).mono ?_
  rintro e w4 ⟨rfl, hb4⟩
  have H4 := Lib.hid (H3.out.on hb4)
  clear hb4 H3
  go_wp2_with fail
  refine (HT2.out q b w4 H4.out).mono ?_
  rintro e w5 ⟨rfl, hb5⟩
  have H5 := Lib.hid hb5
  clear hb5 H4
  go_wp2_with fail
  go_ret
  exact ⟨rfl, H5.out⟩
set_option maxHeartbeats 1000000 in
set_option maxRecDepth 100000 in
theorem quotaRates_walk (each most : Int) (W : World) : Calls Try.prog 5 #[.int .i64 each, .int .i64 most] W fun e w' => e = .returned (.bool true) ∧ Below W.heap.size W w' := by
  have HAW := Lib.hid (fun w => awake24_any w)
  by_cases hr : RtQ each most
  · have h1 : decide (each ≥ 1) = true := by have := hr.1; simp; omega
    have h2 : decide (most ≥ each) = true := by have := hr.2.1; simp; omega
    have h3 : decide (most ≤ 1048576) = true := by have := hr.2.2; simp; omega
    have h1' : each ≥ 1 := by simpa using h1
    have h2' : most ≥ each := by simpa using h2
    have h3' : most ≤ 1048576 := by simpa using h3
    have HMK := Lib.hid (fun w => qnew_any hr w)
    clear hr
    go_enter Try.func5, Try.ntmps5
    go_wp2_with fail
    refine (HMK.out W).mono ?_
    rintro e w1 ⟨rfl, -, hb1⟩
    have HB1 := Lib.hid hb1
    clear hb1
    go_wp2_with fail
    refine (HAW.out w1).mono ?_
    rintro e w2 ⟨rfl, hb2⟩
    have HB2 := Lib.hid (belowThen HB1.out hb2)
    clear hb2
    go_wp2_with fail
    go_ret
    exact ⟨rfl, HB2.out⟩
  · have HMK := Lib.hid (fun w => qnew_bad hr w)
    rcases (show ¬ each ≥ 1 ∨ (each ≥ 1 ∧ ¬ most ≥ each) ∨ (each ≥ 1 ∧ most ≥ each ∧ ¬ most ≤ 1048576) by unfold RtQ at hr; omega) with h1 | ⟨h1, h2⟩ | ⟨h1, h2, h3⟩
    · have d1 : decide (each ≥ 1) = false := by simpa using h1
      clear hr
      go_enter Try.func5, Try.ntmps5
      go_wp2_with fail
      refine (HMK.out W).mono ?_
      rintro e w1 ⟨rfl, hb1⟩
      have HB1 := Lib.hid hb1
      clear hb1
      go_wp2_with fail
      refine (HAW.out w1).mono ?_
      rintro e w2 ⟨rfl, hb2⟩
      have HB2 := Lib.hid (belowThen HB1.out hb2)
      clear hb2
      go_wp2_with fail
      go_ret
      exact ⟨rfl, HB2.out⟩
    · have d1 : decide (each ≥ 1) = true := by simpa using h1
      have d2 : decide (most ≥ each) = false := by simpa using h2
      clear hr
      go_enter Try.func5, Try.ntmps5
      go_wp2_with fail
      refine (HMK.out W).mono ?_
      rintro e w1 ⟨rfl, hb1⟩
      have HB1 := Lib.hid hb1
      clear hb1
      go_wp2_with fail
      refine (HAW.out w1).mono ?_
      rintro e w2 ⟨rfl, hb2⟩
      have HB2 := Lib.hid (belowThen HB1.out hb2)
      clear hb2
      go_wp2_with fail
      go_ret
      exact ⟨rfl, HB2.out⟩
    · have d1 : decide (each ≥ 1) = true := by simpa using h1
      have d2 : decide (most ≥ each) = true := by simpa using h2
      have d3 : decide (most ≤ 1048576) = false := by simpa using h3
      clear hr
      go_enter Try.func5, Try.ntmps5
      go_wp2_with fail
      refine (HMK.out W).mono ?_
      rintro e w1 ⟨rfl, hb1⟩
      have HB1 := Lib.hid hb1
      clear hb1
      go_wp2_with fail
      refine (HAW.out w1).mono ?_
      rintro e w2 ⟨rfl, hb2⟩
      have HB2 := Lib.hid (belowThen HB1.out hb2)
      clear hb2
      go_wp2_with fail
      go_ret
      exact ⟨rfl, HB2.out⟩
end Go.Proofs.Ytbodoodgdojgoaa
