/-
  Mesh: All.
-/
import Derived.Test.YtbkknhlagohhhaaMsm10
namespace Go.Proofs.Ytbkknhlagohhhaa
open Go.RowKit Crv

theorem sendM_ok {x : MS} {t f : Nat} {s : List UInt8} (ht : t < x.n) (hf : f < x.n) (hs : s.length ≤ 1024) (hq : (x.q t f).length < 8) : sendM x f s t = ({ x with q := upd2 x.q t f (x.q t f ++ [s]) }, 0) := by
  unfold sendM
  rw [if_neg (by simp [isAdr_nat ht, isAdr_nat hf]), if_neg (by omega), if_neg (by simp only [Int.toNat_natCast]; omega)]
  simp only [Int.toNat_natCast]
theorem takeI_some {x : MS} {t f : Nat} (ht : t < x.n) (hn : nextM x t = some f) : takeI x t = (dropM (serveM x t f) t f 0, some (f, (x.q t f).getD 0 [])) := by
  unfold takeI
  rw [if_pos (isAdr_nat ht)]
  unfold takeM
  rw [Int.toNat_natCast, hn]
theorem takeI_none {x : MS} {t : Nat} (ht : t < x.n) (hn : nextM x t = none) : takeI x t = (x, none) := by
  unfold takeI
  rw [if_pos (isAdr_nat ht)]
  unfold takeM
  rw [Int.toNat_natCast, hn]
section
variable {W : World} {mb bb : Nat} {qb : Nat → Nat} {sv : Nat → Nat → Value} {x : MS}
set_option maxHeartbeats 2000000 in
set_option maxRecDepth 100000 in
theorem all_any (h : Msh W mb bb qb sv x) : Calls Try.prog 32 #[.pointer (some ⟨mb, 0, none⟩)] W fun e w' => e = .returned (.int .i64 (allM x)) ∧ Below W.heap.size W w' := by
  have hc0 := h.boxes
  have hn := h.n64
  have H := Lib.hid h
  have HL := Lib.hid (totS_le h.le8 h.n64)
  have HR := Lib.hid (fun t => rowS_le (t := t) (h.le8 t))
  obtain ⟨n, hn1⟩ : ∃ n, n = x.n := ⟨_, rfl⟩
  have HN := Lib.hid hn1
  rw [← hn1] at hc0 hn
  clear h hn1
  go_enter Try.func32, Try.ntmps32
  go_wp2_with fail
  go_loopw [3, 13] (fun c i wr => ∃ k : Nat, k ≤ n ∧ i = .int .i64 k ∧ c = .int .i64 (totS x k) ∧ Hid (Below W.heap.size W wr)) (fun _ i _ => n - (intOf i).toNat)
  case atStart => exact ⟨0, by omega, rfl, rfl, Lib.hid (Below.refl _ _)⟩
  case round =>
    obtain ⟨k, hk, rfl, rfl, HB⟩ := hrel
    by_cases hlt : k < n
    · have hd : decide ((k : Int) < (n : Int)) = true := by simp; omega
      have hkn : (k : Int) < (n : Int) := by omega
      have HH := Lib.hid (H.out.below HB.out)
      have hkx : k < x.n := by rw [← HN.out]; exact hlt
      have c1 := HH.out.queues k hkx
      have c2 := HH.out.served k hkx
      rw [← HN.out] at c1
      obtain ⟨s, hs⟩ : ∃ s, s = x.s1 k := ⟨_, rfl⟩
      rw [← hs] at c2
      obtain ⟨T, hT⟩ : ∃ T, T = totS x k := ⟨_, rfl⟩
      have HT := Lib.hid hT
      have hTl : T ≤ 512 * 64 := by have := HL.out k; omega
      rw [← hT]
      have HKX := Lib.hid hkx
      clear hs hT hkx
      go_wp2_with fail
      have hA := belowSelf wr (.cells #[.slice (some ⟨qb k, 0, none⟩) n n, .int .i64 ((s : Int) - 1)] Tbx)
      have HH2 := Lib.hid (HH.out.below hA)
      have HB2 := Lib.hid (HB.out.trans (hA.mono HB.out.size))
      obtain ⟨W2, hW2⟩ : ∃ W2, W2 = wr.alloc (.cells #[.slice (some ⟨qb k, 0, none⟩) n n, .int .i64 ((s : Int) - 1)] Tbx) := ⟨_, rfl⟩
      rw [← hW2] at HH2 HB2
      have HW2 := Lib.hid hW2
      simp only [← hW2]
      clear hA hW2 c1 c2
      go_loopw [3, 20] (fun c i w5 => ∃ j : Nat, j ≤ n ∧ i = .int .i64 j ∧ c = .int .i64 ((T : Int) + rowS x k j) ∧ W2 = w5) (fun _ i _ => n - (intOf i).toNat)
      case atStart => exact ⟨0, by omega, rfl, by show _ = Value.int .i64 ((T : Int) + (0 : Nat)); simp, rfl⟩
      case round =>
        obtain ⟨j, hj, rfl, rfl, rfl⟩ := hrel
        by_cases hjt : j < n
        · have hdj : decide ((j : Int) < (n : Int)) = true := by simp; omega
          have hjn : (j : Int) < (n : Int) := by omega
          have hjx : j < x.n := by rw [← HN.out]; exact hjt
          have c3 := HH2.out.que k j HKX.out hjx
          obtain ⟨a, cap, hsv, _⟩ := HH2.out.form HKX.out hjx
          rw [hsv] at c3
          have hl8 := HH2.out.le8 k j
          have hr := HR.out k j
          have HS : Hid ((T : Int) + rowS x k (j + 1) = (T : Int) + rowS x k j + (x.q k j).length) := Lib.hid (by
            show (T : Int) + ((rowS x k j + (x.q k j).length : Nat) : Int) = _
            omega)
          obtain ⟨m, hm⟩ : ∃ m, m = (x.q k j).length := ⟨_, rfl⟩
          obtain ⟨R, hR⟩ : ∃ R, R = rowS x k j := ⟨_, rfl⟩
          rw [← hm] at c3 hl8 HS
          rw [← hR] at hr HS
          have HRR := Lib.hid hR
          clear hsv hm hR hjx
          go_wp2_with fail
          refine ⟨⟨j + 1, by omega, by go_num, ?_, by trivial⟩, ?_⟩
          · rw [HS.out, IntWalk.wrap64_in _ (by rw [← HRR.out]; omega), HRR.out]
          · simp [intOf]; omega
        · have e : j = n := by omega
          subst e
          have hdj : decide ((j : Int) < (j : Int)) = false := by simp
          have HS : Hid (((T : Int) + rowS x k j) = (totS x (k + 1) : Int)) := Lib.hid (by
            show _ = ((totS x k + rowS x k x.n : Nat) : Int)
            rw [← HN.out, ← HT.out]
            omega)
          go_wp2_with fail
          refine ⟨⟨k + 1, by omega, by go_num, ?_, HB2⟩, ?_⟩
          · rw [HS.out]
          · simp [intOf]; omega
    · have e : k = n := by omega
      subst e
      have hd : decide ((k : Int) < (k : Int)) = false := by simp
      have HE : Hid (totS x k = allM x) := Lib.hid (by rw [HN.out]; rfl)
      go_wp2_with fail
      go_ret
      rw [← HE.out]
      exact ⟨rfl, HB.out⟩
theorem all_mx {W : World} {F : Nat → Prop} {mb : Nat} {x : MS} (hX : Mx W F mb x) : Calls Try.prog 32 #[.pointer (some ⟨mb, 0, none⟩)] W fun e w' => e = .returned (.int .i64 (allM x)) ∧ Below W.heap.size W w' := by
  obtain ⟨_, _, _, h, _⟩ := hX
  exact all_any h
end
end Go.Proofs.Ytbkknhlagohhhaa
