/-
  MeshFair: the walk.
-/
import Derived.Test.YtbkknhlagohhhaaZFair
import Derived.Test.YtbkknhlagohhhaaZMap
import Derived.Test.YtbkknhlagohhhaaZp
namespace Go.Proofs.Ytbkknhlagohhhaa
open Go.RowKit Crv

theorem eighth (z : Int) : ∃ t : Nat, wrap64 (1 + bits BinOp.and IntKind.i64 z 7) = (t : Int) ∧ t ≤ 8 := by
  have h := i64_mask z 3 (by omega)
  have h' : bits .and .i64 z 7 = z % 8 := h
  rw [h', IntWalk.wrap64_in _ (by omega)]
  exact ⟨(1 + z % 8).toNat, by omega, by omega⟩
theorem takeI_n (x : MS) (t : Int) : (takeI x t).1.n = x.n := by
  unfold takeI
  split
  · exact takeM_n x _
  · rfl
theorem Mx.s1le {W : World} {F : Nat → Prop} {mb : Nat} {x : MS} (h : Mx W F mb x) (t : Nat) (ht : t < x.n) : x.s1 t ≤ x.n := by
  obtain ⟨_, _, _, h, _⟩ := h
  exact h.s64 t ht
/-- Those that wait at address 0. -/
def pW (x : MS) : Nat → Bool := fun f => decide (f < 10) && decide (0 < (x.q 0 f).length)
def cK (p : Nat → Bool) (k : Nat) : Nat → Nat := fun i => if i < k ∧ p i = true then 1 else 0
def hK (p : Nat → Bool) (k : Nat) : Nat → Bool := fun i => decide (i < k) && p i
theorem cK_put {p : Nat → Bool} {k : Nat} (h : p k = true) : (fun i => if i = k then 1 else cK p k i) = cK p (k + 1) := by
  funext i
  unfold cK
  by_cases e : i = k
  · subst e
    rw [if_pos rfl, if_pos ⟨by omega, h⟩]
  · rw [if_neg e]
    have : (i < k ∧ p i = true) ↔ (i < k + 1 ∧ p i = true) := ⟨fun a => ⟨by omega, a.2⟩, fun a => ⟨by omega, a.2⟩⟩
    simp only [this]
theorem hK_put {p : Nat → Bool} {k : Nat} (h : p k = true) : (fun i => if i = k then true else hK p k i) = hK p (k + 1) := by
  funext i
  unfold hK
  by_cases e : i = k
  · subst e
    rw [if_pos rfl, h]
    simp
  · rw [if_neg e]
    have : decide (i < k) = decide (i < k + 1) := by
      by_cases h2 : i < k
      · rw [decide_eq_true h2, decide_eq_true (by omega)]
      · rw [decide_eq_false h2, decide_eq_false (by omega)]
    rw [this]
theorem cK_skip {p : Nat → Bool} {k : Nat} (h : p k = false) : cK p (k + 1) = cK p k := by
  funext i
  unfold cK
  by_cases e : i = k
  · subst e
    rw [if_neg (by rw [h]; simp), if_neg (by rw [h]; simp)]
  · have : (i < k ∧ p i = true) ↔ (i < k + 1 ∧ p i = true) := ⟨fun a => ⟨by omega, a.2⟩, fun a => ⟨by omega, a.2⟩⟩
    simp only [this]
theorem hK_skip {p : Nat → Bool} {k : Nat} (h : p k = false) : hK p (k + 1) = hK p k := by
  funext i
  unfold hK
  by_cases e : i = k
  · subst e
    rw [h]
    simp
  · have : decide (i < k) = decide (i < k + 1) := by
      by_cases h2 : i < k
      · rw [decide_eq_true h2, decide_eq_true (by omega)]
      · rw [decide_eq_false h2, decide_eq_false (by omega)]
    rw [this]
theorem cntB_skip {p : Nat → Bool} {k : Nat} (h : p k = false) : cntB p (k + 1) = cntB p k := by
  show cntB p k + (if p k = true then 1 else 0) = _
  rw [h]
  rfl
theorem cntB_add {p : Nat → Bool} {k : Nat} (h : p k = true) : cntB p (k + 1) = cntB p k + 1 := by
  show cntB p k + (if p k = true then 1 else 0) = _
  rw [h]
  rfl
theorem rem_put (r : Nat → Bool) (f : Nat) : (fun i => if i = f then 0 else if r i = true then 1 else 0) = fun j => if (if j = f then false else r j) = true then 1 else 0 := by
  funext i
  by_cases e : i = f
  · subst e
    simp
  · simp [e]
/-- Mesh and map beside each other. -/
def MM (W0 W : World) (mb g n : Nat) (c : Nat → Nat) (h : Nat → Bool) (N : Nat) (x : MS) : Prop := Mx W (Ex W0.heap.size [g]) mb x ∧ MpI W g n c h N ∧ Below W0.heap.size W0 W ∧ W0.heap.size ≤ g
theorem MM.turn {W0 W W' : World} {mb g n n' N N' : Nat} {c c' : Nat → Nat} {h h' : Nat → Bool} {x : MS} (m : MM W0 W mb g n c h N x) (m' : MpI W' g n' c' h' N') (hg : W.grownBy W' (some g)) : MM W0 W' mb g n' c' h' N' x := by
  obtain ⟨h1, h2, h3, h4⟩ := m
  refine ⟨h1.of fun b hlt hF => hg.block b hlt (fun e => hF.2 (by injection e with e; simp [e])), m', h3.trans ⟨hg.os, hg.tape, hg.output, hg.size, fun k hk => hg.block k (by have := h3.size; omega) (fun e => by injection e with e; omega)⟩, h4⟩
theorem MM.call {W0 W W' : World} {mb g n N : Nat} {c : Nat → Nat} {h : Nat → Bool} {x y : MS} (m : MM W0 W mb g n c h N x) (hx : Mx W' (Ex W0.heap.size [g]) mb y) (hf : Fr (Ex W0.heap.size [g]) W W') : MM W0 W' mb g n c h N y := by
  obtain ⟨h1, h2, h3, h4⟩ := m
  exact ⟨hx, h2.of (hf.block g h2.lt (by simp)), h3.trans (hf.ex h3.size), h4⟩
theorem MM.below {W0 W W' : World} {mb g n N : Nat} {c : Nat → Nat} {h : Nat → Bool} {x : MS} (m : MM W0 W mb g n c h N x) (hb : Below W.heap.size W W') : MM W0 W' mb g n c h N x := by
  obtain ⟨h1, h2, h3, h4⟩ := m
  exact ⟨h1.below hb, h2.of (hb.block g h2.lt), h3.trans (hb.mono h3.size), h4⟩
set_option maxHeartbeats 4000000 in
set_option maxRecDepth 100000 in
theorem meshFair_walk (v0 : Value) (sk : Int) (zs : List Int) (W : World) (hv0 : ZsP W v0 zs) (_hl0 : zs.length ≤ 9223372036854775807) :
    Calls Try.prog 9 #[v0, .int .i64 sk] W fun e w' => e = .returned (.bool true) ∧ Below W.heap.size W w' := by
  have HAW := Lib.hid (awake18_any W)
  have HV0 := Lib.hid hv0
  obtain ⟨a0, cap0, rfl, _⟩ := hv0
  obtain ⟨s, hs⟩ : ∃ s : Nat, min (max sk 0) 40 = (s : Int) := ⟨(min (max sk 0) 40).toNat, by omega⟩
  have hs40 : s ≤ 40 := by omega
  have HSK := Lib.hid hs
  clear hs
  go_enter Try.func9, Try.ntmps9
  go_wp2_with fail
  refine HAW.out.mono ?_
  rintro e w1 ⟨rfl, hb1⟩
  have HB1 := Lib.hid hb1
  clear HAW hb1
  have HNEW := Lib.hid (mnew_ex (W := w1) (base := W.heap.size) 10 10 (by decide) HB1.out.size)
  go_wp2_with fail
  refine HNEW.out.mono ?_
  rintro e w2 ⟨rfl, hx, hb⟩
  have HX : Hid (∃ x : MS, x.n = 10 ∧ x.lost ≤ 8 * 0 ∧ Mx w2 (Ex W.heap.size []) (w1.heap.size + 1) x ∧ Below W.heap.size W w2) := Lib.hid ⟨newM 10, rfl, Nat.le_refl _, hx, HB1.out.trans (hb.mono HB1.out.size)⟩
  clear HNEW hx hb HB1
  go_wp2_with fail
  go_loopw [6] (fun i wr => ∃ k : Nat, k ≤ zs.length ∧ k ≤ 9 ∧ i = .int .i64 k ∧ Hid (∃ x : MS, x.n = 10 ∧ x.lost ≤ 8 * k ∧ Mx wr (Ex W.heap.size []) (w1.heap.size + 1) x ∧ Below W.heap.size W wr)) (fun i _ => 10 - (intOf i).toNat)
  case atStart => exact ⟨0, by omega, by omega, rfl, HX⟩
  case round =>
    obtain ⟨k, hkl, hk9, rfl, HR⟩ := hrel
    clear HX
    by_cases hlt : k < zs.length ∧ k < 9
    · obtain ⟨hl1', hl2'⟩ := hlt
      have d1 : decide ((k : Int) < (zs.length : Int)) = true := by simp; omega
      have d1' : decide (k < zs.length) = true := by simpa using hl1'
      have d2 : decide ((k : Int) < 9) = true := by simp; omega
      obtain ⟨a', cap', hv', hc'⟩ := HV0.out.below (by obtain ⟨_, _, _, _, h⟩ := HR.out; exact h)
      injection hv' with q1 q2 q3
      subst q1
      clear q2 q3
      obtain ⟨gz, offz, hza, hzc⟩ := hc' k hl1'
      subst hza
      obtain ⟨z, hz⟩ : ∃ z, z = zs.getD k 0 := ⟨_, rfl⟩
      rw [← hz] at hzc
      obtain ⟨t, ht, ht8⟩ := eighth z
      have HT := Lib.hid ht
      clear hz hc' ht
      go_wp2_with fail
      simp only [HT.out]
      go_loopw [31] (fun i w5 => ∃ j : Nat, j ≤ t ∧ i = .int .i64 j ∧ Hid (∃ x : MS, x.n = 10 ∧ x.lost ≤ 8 * k + j ∧ Mx w5 (Ex W.heap.size []) (w1.heap.size + 1) x ∧ Below W.heap.size W w5)) (fun i _ => t - (intOf i).toNat)
      case atStart => exact ⟨0, by omega, rfl, HR⟩
      case round =>
        obtain ⟨j, hj, rfl, HR5⟩ := hrel
        by_cases hjt : j < t
        · have dj : decide ((j : Int) < (t : Int)) = true := by simp; omega
          obtain ⟨x, h1, h2, h3, h4⟩ := HR5.out
          have HSE := Lib.hid (send_new h3 h4.size (by simp) (by omega) ((k : Int) + 1) 0 [120])
          have HB := Lib.hid h4
          have HX1 : Hid ((sendM x ((k : Int) + 1) [120] 0).1.n = 10 ∧ (sendM x ((k : Int) + 1) [120] 0).1.lost ≤ 8 * k + (j + 1)) := Lib.hid ⟨by rw [sendM_n, h1], by have := sendM_lost x ((k : Int) + 1) [120] 0; omega⟩
          clear h1 h2 h3 h4 HR5
          go_wp2_with fail
          refine HSE.out.mono ?_
          rintro e w6 ⟨rfl, hx6, hf6⟩
          have HX : Hid (∃ x : MS, x.n = 10 ∧ x.lost ≤ 8 * k + (j + 1) ∧ Mx w6 (Ex W.heap.size []) (w1.heap.size + 1) x ∧ Below W.heap.size W w6) := Lib.hid ⟨_, HX1.out.1, HX1.out.2, hx6, HB.out.trans (hf6.ex HB.out.size)⟩
          clear hx6 hf6 HSE
          go_wp2_with fail
          refine ⟨⟨j + 1, by omega, by go_num, HX⟩, ?_⟩
          simp [intOf]; omega
        · have e : j = t := by omega
          subst e
          have dj : decide ((j : Int) < (j : Int)) = false := by simp
          have HX : Hid (∃ x : MS, x.n = 10 ∧ x.lost ≤ 8 * (k + 1) ∧ Mx wr (Ex W.heap.size []) (w1.heap.size + 1) x ∧ Below W.heap.size W wr) := Lib.hid (by
            obtain ⟨x, h1, h2, h3, h4⟩ := HR5.out
            exact ⟨x, h1, by omega, h3, h4⟩)
          clear HR5
          go_wp2_with fail
          refine ⟨⟨k + 1, by omega, by omega, by go_num, HX⟩, ?_⟩
          simp [intOf]; omega
    · have hexit : (decide ((k : Int) < (zs.length : Int)) = false ∧ decide (k < zs.length) = false) ∨ (decide ((k : Int) < (zs.length : Int)) = true ∧ decide (k < zs.length) = true ∧ decide ((k : Int) < 9) = false) := by
        by_cases h : k < zs.length
        · exact .inr ⟨by simp; omega, by simpa using h, by simp; omega⟩
        · exact .inl ⟨by simp; omega, by simp; omega⟩
      have HX0 : Hid (∃ x : MS, x.n = 10 ∧ Mx wr (Ex W.heap.size []) (w1.heap.size + 1) x ∧ Below W.heap.size W wr) := Lib.hid (by
        obtain ⟨x, h1, h2, h3, h4⟩ := HR.out
        exact ⟨x, h1, h3, h4⟩)
      clear HR hlt
      rcases hexit with ⟨d1, d1'⟩ | ⟨d1, d1', d2⟩
      all_goals
        go_wp2_with (first
          | (refine wp_max0 (c := sk) (d := 0) (.tmp 39) (.const (.int .i64 0)) rfl rfl rfl rfl ?_)
          | (refine wp_min0 (c := max sk 0) (d := 40) (.tmp 40) (.const (.int .i64 40)) HSK.out rfl rfl rfl rfl ?_)
          | fail)
        go_loopw [42] (fun i w5 => ∃ j : Nat, j ≤ s ∧ i = .int .i64 j ∧ Hid (∃ x : MS, x.n = 10 ∧ Mx w5 (Ex W.heap.size []) (w1.heap.size + 1) x ∧ Below W.heap.size W w5)) (fun i _ => s - (intOf i).toNat)
        case atStart => exact ⟨0, by omega, rfl, HX0⟩
        case round =>
          obtain ⟨j, hj, rfl, HR5⟩ := hrel
          clear HX0
          by_cases hjt : j < s
          · have dj : decide ((j : Int) < (s : Int)) = true := by simp; omega
            obtain ⟨x, h1, h3, h4⟩ := HR5.out
            have HT := Lib.hid (take_ex h3 h4.size (by simp) 0)
            have HB := Lib.hid h4
            have HN : Hid ((takeI x 0).1.n = 10) := Lib.hid ((takeI_n x 0).trans h1)
            clear h1 h3 h4 HR5
            go_wp2_with fail
            refine HT.out.mono ?_
            rintro e w6 ⟨rfl, hx6, hf6⟩
            have HX : Hid (∃ x : MS, x.n = 10 ∧ Mx w6 (Ex W.heap.size []) (w1.heap.size + 1) x ∧ Below W.heap.size W w6) := Lib.hid ⟨_, HN.out, hx6, HB.out.trans (hf6.ex HB.out.size)⟩
            clear hx6 hf6 HT
            go_wp2_with fail
            refine ⟨⟨j + 1, by omega, by go_num, HX⟩, ?_⟩
            simp [intOf]; omega
          · have e : j = s := by omega
            subst e
            have dj : decide ((j : Int) < (j : Int)) = false := by simp
            obtain ⟨x, h1, h3, h4⟩ := HR5.out
            have HN := Lib.hid h1
            have HS1 := Lib.hid (h3.s1le 0 (by omega))
            have hA := belowSelf wr (.map #[] 0)
            obtain ⟨g, hg⟩ : ∃ g, g = wr.heap.size := ⟨_, rfl⟩
            have HM0 : Hid (MM W (wr.alloc (.map #[] 0)) (w1.heap.size + 1) g 0 (cK (pW x) 0) (hK (pW x) 0) (cntB (pW x) 0) x) := Lib.hid (by
              subst hg
              refine ⟨h3.exAdd _, ?_, h4.trans (hA.mono h4.size), h4.size⟩
              have e1 : cK (pW x) 0 = fun _ => 0 := by funext i; unfold cK; rw [if_neg (by omega)]
              have e2 : hK (pW x) 0 = fun _ => false := by funext i; simp [hK]
              rw [e1, e2]
              exact MpI.made wr)
            have HG := Lib.hid hg
            have hmm := @run_makeMap Try.prog
            clear h1 h3 h4 hA HR5 hg
            go_wp2_with fail
            clear hmm
            have hgg := HG.out
            simp only [← hgg]
            clear hgg
            go_loopw [48] (fun i w5 => ∃ q : Nat, q ≤ 10 ∧ i = .int .i64 q ∧ Hid (MM W w5 (w1.heap.size + 1) g q (cK (pW x) q) (hK (pW x) q) (cntB (pW x) q) x)) (fun i _ => 10 - (intOf i).toNat)
            case atStart => exact ⟨0, by omega, rfl, HM0⟩
            case round =>
              obtain ⟨q, hq, rfl, HM⟩ := hrel
              clear HM0
              by_cases hqt : q < 10
              · have dq : decide ((q : Int) < 10) = true := by simp; omega
                have HW := Lib.hid (waits_mx HM.out.1 0 q)
                have hw : waitsM x 0 q = (x.q 0 q).length := by
                  unfold waitsM
                  rw [if_pos (by simp [isAdr, HN.out]; omega)]
                  rfl
                rw [hw] at HW
                have hp : pW x q = decide (0 < (x.q 0 q).length) := by unfold pW; simp [hqt]
                obtain ⟨L, hL⟩ : ∃ L, L = (x.q 0 q).length := ⟨_, rfl⟩
                rw [← hL] at HW hp
                clear hL hw
                by_cases hL0 : 0 < L
                · have hpt : pW x q = true := by rw [hp]; simpa using hL0
                  have dL : (0 : Int) < (L : Int) := by omega
                  have hlk := HM.out.2.1.look q (by omega)
                  rw [show cK (pW x) q q = 0 by unfold cK; rw [if_neg (by omega)]] at hlk
                  obtain ⟨w8, hup, hm8, hg8⟩ := HM.out.2.1.put q 1 (by omega) (by omega) (by omega)
                  rw [cK_put hpt, hK_put hpt] at hm8
                  have hcn : (if hK (pW x) q q then cntB (pW x) q else cntB (pW x) q + 1) = cntB (pW x) (q + 1) := by
                    have : hK (pW x) q q = false := by simp [hK]
                    rw [this]
                    rw [cntB_add hpt]
                    rfl
                  rw [hcn] at hm8
                  have HX : Hid (MM W w8 (w1.heap.size + 1) g (q + 1) (cK (pW x) (q + 1)) (hK (pW x) (q + 1)) (cntB (pW x) (q + 1)) x) := Lib.hid (HM.out.turn hm8 hg8)
                  rw [show ((0 : Nat) : Int) = 0 from rfl] at hlk
                  rw [show ((1 : Nat) : Int) = 1 from rfl] at hup
                  clear hm8 hg8 hcn hp hpt hL0
                  go_wp2_with fail
                  refine HW.out.mono ?_
                  rintro e w6 ⟨rfl, rfl⟩
                  go_wp2_with fail
                  refine ⟨⟨q + 1, by omega, by go_num, HX⟩, ?_⟩
                  simp [intOf]; omega
                · have hpf : pW x q = false := by rw [hp]; simpa using hL0
                  have dL : ¬ (0 : Int) < (L : Int) := by omega
                  have HX : Hid (MM W wr (w1.heap.size + 1) g (q + 1) (cK (pW x) (q + 1)) (hK (pW x) (q + 1)) (cntB (pW x) (q + 1)) x) := Lib.hid (by
                    rw [cK_skip hpf, hK_skip hpf, cntB_skip hpf]
                    obtain ⟨g1, g2, g3, g4⟩ := HM.out
                    obtain ⟨D, o, r⟩ := g2
                    exact ⟨g1, ⟨D, o.mono (Nat.le_succ _), r⟩, g3, g4⟩)
                  clear hp hpf
                  go_wp2_with fail
                  refine HW.out.mono ?_
                  rintro e w6 ⟨rfl, rfl⟩
                  go_wp2_with fail
                  refine ⟨⟨q + 1, by omega, by go_num, HX⟩, ?_⟩
                  simp [intOf]; omega
              · have e : q = 10 := by omega
                subst e
                have hlen := HM.out.2.1.len
                obtain ⟨N, hN⟩ : ∃ N, N = cntB (pW x) 10 := ⟨_, rfl⟩
                have hN10 : N ≤ 10 := by rw [hN]; exact cntB_le _ _
                have HM5 : Hid (∃ (y : MS) (r : Nat → Bool) (h : Nat → Bool) (T : Nat), ToCome y r ∧ cntB r 10 + 0 = N ∧ MM W wr (w1.heap.size + 1) g (10 + 0) (fun j => if r j then 1 else 0) h T y) := Lib.hid (by
                  refine ⟨x, pW x, hK (pW x) 10, cntB (pW x) 10, ToCome.start HN.out (by have := HS1.out; have := HN.out; omega), by rw [hN]; rfl, ?_⟩
                  have e1 : cK (pW x) 10 = fun j => if pW x j then 1 else 0 := by
                    funext j
                    unfold cK
                    by_cases h : pW x j = true
                    · have h10 : j < 10 := by
                        unfold pW at h
                        simp only [Bool.and_eq_true, decide_eq_true_eq] at h
                        exact h.1
                      rw [if_pos ⟨h10, h⟩, if_pos h]
                    · rw [if_neg (fun a => h a.2), if_neg h]
                  rw [← e1]
                  exact HM.out)
                rw [← hN] at hlen
                clear hN HM HS1
                go_wp2_with fail
                go_loopw [63] (fun i w5 => ∃ q : Nat, q ≤ N ∧ i = .int .i64 q ∧ Hid (∃ (y : MS) (r : Nat → Bool) (h : Nat → Bool) (T : Nat), ToCome y r ∧ cntB r 10 + q = N ∧ MM W w5 (w1.heap.size + 1) g (10 + q) (fun j => if r j then 1 else 0) h T y)) (fun i _ => N - (intOf i).toNat)
                case atStart => exact ⟨0, by omega, rfl, HM5⟩
                case round =>
                  obtain ⟨q, hq, rfl, HM⟩ := hrel
                  clear HM5
                  by_cases hqt : q < N
                  · have dq : decide ((q : Int) < (N : Int)) = true := by simp; omega
                    obtain ⟨y, r, h, T, htc, hcn, hmm⟩ := HM.out
                    obtain ⟨f, hn, hrf, hf10, htc', hcn'⟩ := htc.take (by omega)
                    have ht : takeI y 0 = _ := takeI_some (x := y) (t := 0) (f := f) (by have := htc.1; omega) hn
                    have ht2 : (takeI y 0).2 = some (f, (y.q 0 f).getD 0 []) := by rw [ht]
                    have HT := Lib.hid (take_ex hmm.1 hmm.2.2.1.size (by intro s hs; simp at hs; subst hs; exact hmm.2.1.lt) 0)
                    rw [ht2, pkL_some] at HT
                    obtain ⟨t0, ht0⟩ : ∃ t0, t0 = (y.q 0 f).getD 0 [] := ⟨_, rfl⟩
                    rw [← ht0] at HT
                    have HMM := Lib.hid hmm
                    have HTC := Lib.hid htc'
                    have HCN := Lib.hid (show cntB (fun i => if i = f then false else r i) 10 + (q + 1) = N by omega)
                    have HRF := Lib.hid hrf
                    clear hmm htc htc' hcn hcn' hn ht ht2 ht0 hrf HM
                    go_wp2_with fail
                    refine HT.out.mono ?_
                    rintro e w6 ⟨rfl, hx6, hf6⟩
                    have hA := belowSelf w6 (.cells #[.int .i64 (f : Int), tx t0] Tpk)
                    have hm7 := (HMM.out.call hx6 hf6).below hA
                    have hlk := hm7.2.1.look f (by omega)
                    rw [if_pos HRF.out] at hlk
                    rw [show ((1 : Nat) : Int) = 1 from rfl] at hlk
                    obtain ⟨w8, hup, hm8, hg8⟩ := hm7.2.1.put f 0 (by omega) (by omega) (by omega)
                    rw [rem_put] at hm8
                    rw [show ((0 : Nat) : Int) = 0 from rfl] at hup
                    have HX : Hid (∃ (y : MS) (r : Nat → Bool) (h : Nat → Bool) (T : Nat), ToCome y r ∧ cntB r 10 + (q + 1) = N ∧ MM W w8 (w1.heap.size + 1) g (10 + (q + 1)) (fun j => if r j then 1 else 0) h T y) := Lib.hid ⟨_, _, _, _, HTC.out, HCN.out, hm7.turn hm8 hg8⟩
                    clear hm7 hm8 hg8 hx6 hf6 hA HT
                    go_wp2_with fail
                    refine ⟨?_, ?_⟩
                    · first
                        | exact ⟨q + 1, by omega, by go_num, HX⟩
                        | ((repeat apply Exists.intro); exact ⟨⟨q + 1, by omega, by go_num, HX⟩, rfl⟩)
                    · simp [intOf]; omega
                  · have e : q = N := by omega
                    subst e
                    have dq : decide ((q : Int) < (q : Int)) = false := by simp
                    have HB : Hid (Below W.heap.size W wr) := Lib.hid (by
                      obtain ⟨_, _, _, _, _, _, h⟩ := HM.out
                      exact h.2.2.1)
                    go_wp2_with fail
                    go_ret
                    exact ⟨rfl, HB.out⟩
end Go.Proofs.Ytbkknhlagohhhaa
