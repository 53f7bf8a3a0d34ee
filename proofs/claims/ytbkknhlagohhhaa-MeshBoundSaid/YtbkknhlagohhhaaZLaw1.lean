/-
  MeshBound: the walk.
-/
import Derived.Test.YtbkknhlagohhhaaMsm11
namespace Go.Proofs.Ytbkknhlagohhhaa
open Go.RowKit Crv

abbrev floodT : List UInt8 := [102, 108, 111, 111, 100]
/-- A mesh of four that was flooded k times. -/
def flM : Nat → MS
  | 0 => newM 4
  | k + 1 => (sendM (flM k) 3 floodT 0).1
theorem flM_is : ∀ k, (flM k).n = 4 ∧ (∀ t f, f ≠ 3 → (flM k).q t f = []) ∧ ((flM k).q 0 3).length ≤ 8 ∧ (flM k).lost ≤ k ∧ (flM k).s1 0 = 0
  | 0 => ⟨rfl, fun _ _ _ => rfl, by simp [flM, newM], Nat.le_refl _, rfl⟩
  | k + 1 => by
    obtain ⟨h1, h2, h3, h4, h5⟩ := flM_is k
    have hs : (flM (k + 1)) = (sendM (flM k) 3 floodT 0).1 := rfl
    rw [hs]
    by_cases hq : ((flM k).q 0 3).length < 8
    · have e := sendM_ok (x := flM k) (t := 0) (f := 3) (s := floodT) (by omega) (by omega) (by decide) hq
      have e' : sendM (flM k) 3 floodT 0 = _ := e
      rw [e']
      refine ⟨h1, fun t f hne => ?_, ?_, by simp only; omega, h5⟩
      · simp only
        rw [upd2_other _ _ (by intro e; exact hne e.2)]
        exact h2 t f hne
      · simp only
        rw [upd2_same, List.length_append]
        simp; omega
    · have e' : sendM (flM k) 3 floodT 0 = ({ flM k with lost := (flM k).lost + 1 }, 14) := by
        unfold sendM
        rw [if_neg (by rw [h1]; decide), if_neg (by decide), if_pos (by show 8 ≤ ((flM k).q 0 3).length; omega)]
      rw [e']
      exact ⟨h1, h2, h3, by simp only; omega, h5⟩
theorem bound_send (k : Nat) (s : List UInt8) (hs : s.length ≤ 100) : (sendM (flM k) 1 s 0).2 = 0 ∧ (takeI (sendM (flM k) 1 s 0).1 0).2 = some (1, s) := by
  obtain ⟨h1, h2, h3, h4, h5⟩ := flM_is k
  have e : sendM (flM k) 1 s 0 = ({ (flM k) with q := upd2 (flM k).q 0 1 [s] }, 0) := by
    have e := sendM_ok (x := flM k) (t := 0) (f := 1) (s := s) (by omega) (by omega) (by omega) (by rw [h2 0 1 (by decide)]; simp)
    rw [h2 0 1 (by decide)] at e
    exact e
  rw [e]
  refine ⟨rfl, ?_⟩
  have hq : ∀ f, ({ (flM k) with q := upd2 (flM k).q 0 1 [s] } : MS).q 0 f = if f = 1 then [s] else (flM k).q 0 f := by
    intro f
    show upd2 (flM k).q 0 1 [s] 0 f = _
    unfold upd2
    simp
  have hn : nextM { (flM k) with q := upd2 (flM k).q 0 1 [s] } 0 = some 1 := by
    have h1' : ({ (flM k) with q := upd2 (flM k).q 0 1 [s] } : MS).n = 4 := h1
    have h5' : ({ (flM k) with q := upd2 (flM k).q 0 1 [s] } : MS).s1 0 = 0 := h5
    have hi : nextI { (flM k) with q := upd2 (flM k).q 0 1 [s] } 0 = some 1 := by
      refine nextI_some (by rw [h1']; decide) (fun j hj => ?_) ?_
      · have : j = 0 := by omega
        subst this
        rw [h1', h5', hq]
        exact h2 0 0 (by decide)
      · rw [h1', h5', hq]
        simp
    unfold nextM
    rw [hi, h1', h5']
    rfl
  unfold takeI
  rw [if_pos (by show isAdr (flM k).n 0 = true; rw [h1]; decide)]
  unfold takeM
  rw [show (0 : Int).toNat = 0 from rfl, hn]
  show some (1, (upd2 (flM k).q 0 1 [s] 0 1).getD 0 []) = _
  rw [upd2_same]
  rfl
set_option maxHeartbeats 2000000 in
set_option maxRecDepth 100000 in
theorem meshBound_walk (fl : Int) (l : List UInt8) (W : World) :
    Calls Try.prog 10 #[.int .i64 fl, .string (str l)] W fun e w' => e = .returned (.bool true) ∧ Below W.heap.size W w' := by
  have HAW := Lib.hid (awake18_any W)
  obtain ⟨n, hn⟩ : ∃ n : Nat, min (max fl 0) 60 = (n : Int) := ⟨(min (max fl 0) 60).toNat, by omega⟩
  have hn60 : n ≤ 60 := by omega
  have HN := Lib.hid hn
  have HCUT := Lib.hid (fun w => cutB l 100 (by omega) w)
  obtain ⟨s, hs⟩ : ∃ s, s = l.take (100 : Int).toNat := ⟨_, rfl⟩
  have HSL : Hid (s.length ≤ 100) := Lib.hid (by rw [hs, List.length_take]; show min 100 _ ≤ 100; omega)
  rw [← hs] at HCUT
  clear hn hs
  go_enter Try.func10, Try.ntmps10
  go_wp2_with fail
  refine HAW.out.mono ?_
  rintro e w1 ⟨rfl, hb1⟩
  have HB1 := Lib.hid hb1
  clear HAW hb1
  go_wp2_with fail
  refine (HCUT.out w1).mono ?_
  rintro e w ⟨rfl, rfl⟩
  have HNEW := Lib.hid (mnew_ex (W := w1) (base := W.heap.size) 4 4 (by decide) HB1.out.size)
  go_wp2_with fail
  refine HNEW.out.mono ?_
  rintro e w2 ⟨rfl, hx, hb⟩
  have HX : Hid (Mx w2 (Ex W.heap.size []) (w1.heap.size + 1) (flM 0) ∧ Below W.heap.size W w2) := Lib.hid ⟨hx, HB1.out.trans (hb.mono HB1.out.size)⟩
  clear HNEW hx hb HCUT
  go_wp2_with (first
    | (refine wp_max0 (c := fl) (d := 0) (.tmp 13) (.const (.int .i64 0)) rfl rfl rfl rfl ?_)
    | (refine wp_min0 (c := max fl 0) (d := 60) (.tmp 14) (.const (.int .i64 60)) HN.out rfl rfl rfl rfl ?_)
    | fail)
  go_loopw [16] (fun i wr => ∃ k : Nat, k ≤ n ∧ i = .int .i64 k ∧ Hid (Mx wr (Ex W.heap.size []) (w1.heap.size + 1) (flM k) ∧ Below W.heap.size W wr)) (fun i _ => n - (intOf i).toNat)
  case atStart => exact ⟨0, by omega, rfl, HX⟩
  case round =>
    obtain ⟨k, hk, rfl, HR⟩ := hrel
    clear HX
    by_cases hlt : k < n
    · have hd : decide ((k : Int) < (n : Int)) = true := by simp; omega
      have HSE := Lib.hid (send_new HR.out.1 HR.out.2.size (by simp) (by have := (flM_is k).2.2.2.1; omega) 3 0 floodT)
      go_wp2_with fail
      refine HSE.out.mono ?_
      rintro e w3 ⟨rfl, hx, hf⟩
      have HX : Hid (Mx w3 (Ex W.heap.size []) (w1.heap.size + 1) (flM (k + 1)) ∧ Below W.heap.size W w3) := Lib.hid ⟨hx, HR.out.2.trans (hf.ex HR.out.2.size)⟩
      clear hx hf HSE
      go_wp2_with fail
      refine ⟨⟨k + 1, by omega, by go_num, HX⟩, ?_⟩
      simp [intOf]; omega
    · have e : k = n := by omega
      subst e
      have hd : decide ((k : Int) < (k : Int)) = false := by simp
      have HW := Lib.hid (waits_mx HR.out.1 0 3)
      have hw8 : waitsM (flM k) 0 3 ≤ 8 := by
        unfold waitsM
        split
        · exact (flM_is k).2.2.1
        · omega
      obtain ⟨q, hq⟩ : ∃ q, q = waitsM (flM k) 0 3 := ⟨_, rfl⟩
      rw [← hq] at HW hw8
      have hgt : ¬ (8 : Int) < (q : Int) := by omega
      have HSE := Lib.hid (send_new HR.out.1 HR.out.2.size (by simp) (by have := (flM_is k).2.2.2.1; omega) 1 0 s)
      have HBS := Lib.hid (bound_send k s HSL.out)
      rw [HBS.out.1] at HSE
      clear hq
      go_wp2_with fail
      refine HW.out.mono ?_
      rintro e w3 ⟨rfl, rfl⟩
      go_wp2_with fail
      refine HSE.out.mono ?_
      rintro e w3 ⟨rfl, hx, hf⟩
      have HB3 := Lib.hid (HR.out.2.trans (hf.ex HR.out.2.size))
      have HT := Lib.hid (take_ex hx HB3.out.size (by simp) 0)
      rw [HBS.out.2, pkL_some] at HT
      clear hx hf HSE HW HBS HR
      go_wp2_with fail
      go_loopw [32] (fun i wr => i = .int .i64 0 ∧ w3 = wr) (fun _ _ => 0)
      case atStart => exact ⟨rfl, rfl⟩
      case round =>
        obtain ⟨rfl, rfl⟩ := hrel
        go_wp2_with fail
        refine HT.out.mono ?_
        rintro e w4 ⟨rfl, hx, hf⟩
        have HB4 := Lib.hid (HB3.out.trans (hf.ex HB3.out.size))
        have HB5 := Lib.hid (HB4.out.trans ((belowSelf w4 (.cells #[.int .i64 1, tx s] Tpk)).mono HB4.out.size))
        clear hx hf HT
        go_wp2_with fail
        go_ret
        exact ⟨rfl, HB5.out⟩
end Go.Proofs.Ytbkknhlagohhhaa
