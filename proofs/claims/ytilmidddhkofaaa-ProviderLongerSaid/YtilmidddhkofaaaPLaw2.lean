/-
  Two tables side by side; ProviderLonger: the walk.
-/
import Derived.Test.YtilmidddhkofaaaPLaw1
namespace Go.Proofs.Ytilmidddhkofaaa
open Go.RowKit Go.Maps Crv

/-- Two tables that a law has made since W0. -/
def TwoT (W0 : World) (s t : Nat) (V1 V2 : PV) (w : World) : Prop :=
  ∃ F1 F2 : Nat → Prop, Pv w F1 s V1 ∧ Pv w F2 t V2 ∧ (∀ k, F1 k → W0.heap.size ≤ k ∧ k < w.heap.size) ∧ (∀ k, F2 k → W0.heap.size ≤ k ∧ k < w.heap.size) ∧ (∀ k, F1 k → F2 k → False) ∧ Below W0.heap.size W0 w
section
variable {W0 w w' : World} {s t : Nat} {V1 V2 : PV} {x : List UInt8} {a u now : Int}
theorem TwoT.swap (h : TwoT W0 s t V1 V2 w) : TwoT W0 t s V2 V1 w := by
  obtain ⟨F1, F2, h1, h2, h3, h4, h5, h6⟩ := h
  exact ⟨F2, F1, h2, h1, h4, h3, fun k a b => h5 k b a, h6⟩
theorem TwoT.on (h : TwoT W0 s t V1 V2 w) (hb : Below w.heap.size w w') : TwoT W0 s t V1 V2 w' := by
  obtain ⟨F1, F2, h1, h2, h3, h4, h5, h6⟩ := h
  exact ⟨F1, F2, h1.below hb, h2.below hb, fun k hk => ⟨(h3 k hk).1, Nat.lt_of_lt_of_le (h3 k hk).2 hb.size⟩, fun k hk => ⟨(h4 k hk).1, Nat.lt_of_lt_of_le (h4 k hk).2 hb.size⟩, h5, belowThen h6 hb⟩
theorem TwoT.put (h : TwoT W0 s t V1 V2 w) (hx : x.length = 32) (hu : In64 u) : Calls Try.prog 10 #[.pointer (some ⟨s, 0, none⟩), nmV x, iv a, iv u] w fun e w' =>
    e = .returned (iv (putV x a u V1).2) ∧ TwoT W0 s t (putV x a u V1).1 V2 w' := by
  obtain ⟨F1, F2, h1, h2, h3, h4, h5, h6⟩ := h
  refine (put_any h1 hx hu).mono fun e w' q => ⟨q.1, fun k => (F1 k ∨ w.heap.size ≤ k) ∧ k < w'.heap.size, F2, ?_, ?_, ?_, ?_, ?_, ?_⟩
  · exact q.2.1.mono fun b hb hF => ⟨hF, hb⟩
  · exact h2.of fun b hlt hF => q.2.2.block b hlt (fun e => h5 b e hF)
  · rintro k ⟨hk | hk, hl⟩
    · exact ⟨(h3 k hk).1, hl⟩
    · exact ⟨Nat.le_trans h6.size hk, hl⟩
  · exact fun k hk => ⟨(h4 k hk).1, Nat.lt_of_lt_of_le (h4 k hk).2 q.2.2.size⟩
  · rintro k ⟨hk | hk, -⟩ h2
    · exact h5 k hk h2
    · have := (h4 k h2).2; omega
  · exact h6.trans (q.2.2.below (fun k hk hF => by have := (h3 k hF).1; omega) h6.size)
theorem TwoT.get (h : TwoT W0 s t V1 V2 w) (hx : x.length = 32) : Calls Try.prog 17 #[.pointer (some ⟨s, 0, none⟩), nmV x, iv now] w fun e w' =>
    ∃ v, e = .returned v ∧ Owns w' w.heap.size Tin v ((getV x now V1).map iv) ∧ TwoT W0 s t V1 V2 w' ∧ Below w.heap.size w w' := by
  have h0 := h
  obtain ⟨F1, F2, h1, h2, h3, h4, h5, h6⟩ := h
  exact (get_any h1 hx).mono fun e w' ⟨v, q1, q2, q3⟩ => ⟨v, q1, q2, h0.on q3, q3⟩
theorem TwoT.make (hb : Below W0.heap.size W0 w) : Calls Try.prog 8 #[] w fun e w1 => e = .returned (.pointer (some ⟨w.heap.size + 1, 0, none⟩)) ∧
    Calls Try.prog 8 #[] w1 fun e w2 => e = .returned (.pointer (some ⟨w.heap.size + 3, 0, none⟩)) ∧ TwoT W0 (w.heap.size + 1) (w.heap.size + 3) [] [] w2 := by
  refine (pnew_any w).mono fun e w1 ⟨q1, q2, q3, q4⟩ => ⟨q1, ?_⟩
  refine (pnew_any w1).mono fun e w2 ⟨r1, r2, r3, r4⟩ => ?_
  rw [q4] at r1 r2 r4
  have hb1 := belowThen hb q3
  refine ⟨r1, fun k => k = w.heap.size + 1 ∨ k = w.heap.size, fun k => k = w.heap.size + 3 ∨ k = w.heap.size + 2, ⟨_, [], q2.below r3, rfl, ?_⟩, ⟨_, [], r2, rfl, ?_⟩, ?_, ?_, ?_, belowThen hb1 r3⟩
  · rintro k (rfl | rfl | ⟨r, hr, _⟩)
    · exact .inl rfl
    · exact .inr rfl
    · simp at hr
  · rintro k (rfl | rfl | ⟨r, hr, _⟩)
    · exact .inl rfl
    · exact .inr rfl
    · simp at hr
  · have := hb.size
    rintro k (rfl | rfl) <;> omega
  · have := hb.size
    rintro k (rfl | rfl) <;> omega
  · rintro k (rfl | rfl) h <;> omega
end
theorem put_second (x : List UInt8) (a u v : Int) (h : 0 ≤ a ∧ a < 64) : putV x a v [(x, [(a, u)])] = ([(x, [(a, max u v)])], 0) := by
  unfold putV
  rw [if_neg (by omega), getK_cons, if_pos rfl]
  simp [getK, updK, Enc.set, Enc.ins, delK]
set_option maxHeartbeats 2000000 in
set_option maxRecDepth 100000 in
theorem providerLonger_walk (a b now : Int) (W : World) (ha : In64 a) (hb : In64 b) : Calls Try.prog 5 #[.int .i64 a, .int .i64 b, .int .i64 now] W fun e w' => e = .returned (.bool true) ∧ Below W.heap.size W w' := by
  have HAW := Lib.hid (fun w => awake21_any w)
  by_cases h1 : a < 0
  · have hd : decide (a < 0) = true := by simpa using h1
    go_enter Try.func5, Try.ntmps5
    go_wp2_with fail
    refine (HAW.out _).mono ?_
    rintro e w1 ⟨rfl, hb1⟩
    have HB1 := Lib.hid hb1
    clear hb1
    go_wp2_with fail
    refine (HAW.out _).mono ?_
    rintro e w2 ⟨rfl, hb2⟩
    have HB2 := Lib.hid hb2
    clear hb2
    go_wp2_with fail
    go_ret
    exact ⟨rfl, belowThen HB1.out HB2.out⟩
  by_cases h2 : b < 0
  · have hd : decide (a < 0) = false := by simpa using h1
    have hd2 : decide (b < 0) = true := by simpa using h2
    go_enter Try.func5, Try.ntmps5
    go_wp2_with fail
    refine (HAW.out _).mono ?_
    rintro e w1 ⟨rfl, hb1⟩
    have HB1 := Lib.hid hb1
    clear hb1
    go_wp2_with fail
    refine (HAW.out _).mono ?_
    rintro e w2 ⟨rfl, hb2⟩
    have HB2 := Lib.hid hb2
    clear hb2
    go_wp2_with fail
    go_ret
    exact ⟨rfl, belowThen HB1.out HB2.out⟩
  have hd : decide (a < 0) = false := by simpa using h1
  have hd2 : decide (b < 0) = false := by simpa using h2
  have HA := Lib.hid (show 0 ≤ a ∧ In64 a from ⟨by omega, ha⟩)
  have HB := Lib.hid (show 0 ≤ b ∧ In64 b from ⟨by omega, hb⟩)
  have HPA := Lib.hid (fun s t V w (h : TwoT W s t [] V w) (u : Int) (hu : 0 ≤ u ∧ In64 u) => show Calls Try.prog 10 #[.pointer (some ⟨s, 0, none⟩), .agg zs32, iv 1, iv u] w fun e w' => e = .returned (iv 0) ∧ TwoT W s t [(zN, [(1, u)])] V w' from by
    have := h.put (x := zN) (a := 1) rfl hu.2
    rw [put_first zN 1 u (by omega), Int.max_eq_right hu.1] at this
    exact this)
  have HPB := Lib.hid (fun s t V w (u v : Int) (h : TwoT W s t [(zN, [(1, u)])] V w) (hv : In64 v) => show Calls Try.prog 10 #[.pointer (some ⟨s, 0, none⟩), .agg zs32, iv 1, iv v] w fun e w' => e = .returned (iv 0) ∧ TwoT W s t [(zN, [(1, max u v)])] V w' from by
    have := h.put (x := zN) (a := 1) rfl hv
    rw [put_second zN 1 u v (by omega)] at this
    exact this)
  obtain ⟨L, hL⟩ : ∃ L : List Int, L = if now < max a b then [1] else [] := ⟨_, rfl⟩
  have HG := Lib.hid (fun s t V w (u : Int) (hu : u = max a b) (h : TwoT W s t [(zN, [(1, u)])] V w) => show Calls Try.prog 17 #[.pointer (some ⟨s, 0, none⟩), .agg zs32, iv now] w fun e w' => ∃ v, e = .returned v ∧ Owns w' w.heap.size Tin v (L.map iv) ∧ TwoT W s t [(zN, [(1, u)])] V w' ∧ Below w.heap.size w w' from by
    have := h.get (x := zN) (now := now) rfl
    rw [get_only, hu, ← hL] at this
    rw [hu]
    rw [hu] at h
    exact this)
  have HLE := Lib.hid hL
  clear ha hb h1 h2 hL
  go_enter Try.func5, Try.ntmps5
  go_wp2_with fail
  refine (HAW.out _).mono ?_
  rintro e w1 ⟨rfl, hb1⟩
  have HMK := Lib.hid (TwoT.make (W0 := W) hb1)
  clear hb1
  go_wp2_with fail
  refine HMK.out.mono ?_
  rintro e w2 ⟨rfl, hmk2⟩
  have HMK2 := Lib.hid hmk2
  clear hmk2
  go_wp2_with fail
  refine HMK2.out.mono ?_
  rintro e w3 ⟨rfl, h3⟩
  obtain ⟨s, hs⟩ : ∃ s, s = w1.heap.size + 1 := ⟨_, rfl⟩
  obtain ⟨t, ht⟩ : ∃ t, t = w1.heap.size + 3 := ⟨_, rfl⟩
  have H3 := Lib.hid h3
  simp only [← hs, ← ht] at H3 ⊢
  clear h3 hs ht
  go_wp2_with fail
  refine (HPA.out s t _ w3 H3.out a HA.out).mono ?_
  rintro e w4 ⟨rfl, h4⟩
  have H4 := Lib.hid h4
  clear h4
  go_wp2_with fail
  refine (HPB.out s t _ w4 a b H4.out HB.out.2).mono ?_
  rintro e w5 ⟨rfl, h5⟩
  have H5 := Lib.hid h5.swap
  clear h5
  go_wp2_with fail
  refine (HPA.out t s _ w5 H5.out b HB.out).mono ?_
  rintro e w6 ⟨rfl, h6⟩
  have H6 := Lib.hid h6
  clear h6
  go_wp2_with fail
  refine (HPB.out t s _ w6 b a H6.out HA.out.2).mono ?_
  rintro e w7 ⟨rfl, h7⟩
  have H7 := Lib.hid h7.swap
  clear h7
  go_wp2_with fail
  refine (HG.out s t _ w7 _ rfl H7.out).mono ?_
  rintro e w8 ⟨v8, rfl, ho8, h8, hb8⟩
  obtain ⟨a8, c8, rfl, -, -, -⟩ := ho8.form
  have H8 := Lib.hid h8.swap
  clear h8 hb8 ho8
  go_wp2_with fail
  refine (HG.out t s _ w8 _ (Int.max_comm b a) H8.out).mono ?_
  rintro e w9 ⟨v9, rfl, ho9, h9, hb9⟩
  obtain ⟨a9, c9, rfl, -, -, -⟩ := ho9.form
  have H9 := Lib.hid (show Below W.heap.size W w9 from by obtain ⟨_, _, _, _, _, _, _, q⟩ := h9; exact q)
  clear h9 hb9 ho9
  by_cases hm : now < max a b
  · have hdm : decide (now < max a b) = true := by simpa using hm
    have hL1 : L.length = 1 := by rw [HLE.out, if_pos hm]; rfl
    simp only [List.length_map, hL1]
    have HM := Lib.hid hm
    clear hm hL1
    go_wp2_with (first
      | (refine wp_max0 (c := a) (d := b) (.tmp 58) (.tmp 59) rfl rfl rfl rfl ?_)
      | fail)
    go_ret
    exact ⟨rfl, H9.out⟩
  · have hdm : decide (now < max a b) = false := by simpa using hm
    have hL0 : L.length = 0 := by rw [HLE.out, if_neg hm]; rfl
    simp only [List.length_map, hL0]
    have HM := Lib.hid hm
    clear hm hL0
    go_wp2_with (first
      | (refine wp_max0 (c := a) (d := b) (.tmp 58) (.tmp 59) rfl rfl rfl rfl ?_)
      | fail)
    go_ret
    exact ⟨rfl, H9.out⟩
end Go.Proofs.Ytilmidddhkofaaa
