/-
  Mesh: next.
-/
import Derived.Test.YtbkknhlagohhhaaMsm2
namespace Go.Proofs.Ytbkknhlagohhhaa
open Go.RowKit Crv

section
variable {W : World} {mb bb : Nat} {qb : Nat → Nat} {sv : Nat → Nat → Value} {x : MS}
set_option maxHeartbeats 1000000 in
theorem next_any (h : Msh W mb bb qb sv x) (t : Nat) (ht : t < x.n) : Calls Try.prog 75 #[.pointer (some ⟨bb, t * 2, none⟩)] W fun e w' => e = .returned (.tuple #[.int .i64 ((nextM x t).getD 0 : Nat), .bool (nextM x t).isSome]) ∧ w' = W := by
  have hc1 := h.queues t ht
  have hc2 := h.served t ht
  have hs := h.s64 t ht
  have hn := h.n64
  have H := Lib.hid h
  clear h
  obtain ⟨s, hs1⟩ : ∃ s, s = x.s1 t := ⟨_, rfl⟩
  obtain ⟨n, hn1⟩ : ∃ n, n = x.n := ⟨_, rfl⟩
  have HS := Lib.hid hs1
  have HN := Lib.hid hn1
  rw [← hs1] at hc2 hs
  rw [← hn1] at hc1 hs hn ht
  clear hs1 hn1
  go_enter Try.func75, Try.ntmps75
  go_wp2_with fail
  go_loopw [13] (fun i wr => ∃ k : Nat, k ≤ n ∧ i = .int .i64 k ∧ W = wr ∧ Hid (∀ j, j < k → x.q t ((s + j) % n) = [])) (fun i _ => n - (intOf i).toNat)
  case atStart => exact ⟨0, by omega, rfl, rfl, Lib.hid (fun j hj => by omega)⟩
  case round =>
    obtain ⟨k, hk, rfl, rfl, HE⟩ := hrel
    by_cases hlt : k < n
    · have hd : decide ((k : Int) < (n : Int)) = true := by simp; omega
      obtain ⟨f, hf⟩ : ∃ f, f = (s + k) % n := ⟨_, rfl⟩
      have hfn : f < n := hf ▸ Nat.mod_lt _ (by omega)
      have hrem : ((s : Int) + k) % (n : Int) = (f : Int) := by rw [hf, Int.natCast_emod, Int.natCast_add]
      have HF := Lib.hid hf
      clear hf
      have hf0 : (f : Int) < (n : Int) := by omega
      have hc3 := H.out.que t f (by rw [← HN.out]; exact ht) (by rw [← HN.out]; exact hfn)
      obtain ⟨a, cap, hsv, _⟩ := H.out.form (t := t) (f := f) (by rw [← HN.out]; exact ht) (by rw [← HN.out]; exact hfn)
      rw [hsv] at hc3
      clear hsv
      obtain ⟨m, hm⟩ : ∃ m, m = (x.q t f).length := ⟨_, rfl⟩
      have HM := Lib.hid hm
      rw [← hm] at hc3
      clear hm
      by_cases h0 : m = 0
      · have HE2 : Hid (∀ j, j < k + 1 → x.q t ((s + j) % n) = []) := Lib.hid fun j hj => by
          by_cases e : j = k
          · subst e
            rw [← HF.out]
            exact List.length_eq_zero_iff.1 (HM.out ▸ h0)
          · exact HE.out j (by omega)
        subst h0
        go_wp2_with fail
        refine ⟨⟨k + 1, by omega, by go_num, by trivial, HE2⟩, ?_⟩
        simp [intOf]; omega
      · have hm0 : (0 : Int) < (m : Int) := by omega
        have hsome : nextM x t = some f := by
          have h1 : nextI x t = some k := by
            refine nextI_some (by rw [← HN.out]; exact hlt) (fun j hj => by rw [← HS.out, ← HN.out]; exact HE.out j hj) ?_
            rw [← HS.out, ← HN.out, ← HF.out]
            intro e
            exact h0 (by rw [HM.out, e]; rfl)
          unfold nextM
          rw [h1, HF.out, HS.out, HN.out]
          rfl
        have HSO := Lib.hid hsome
        clear hsome
        go_wp2_with fail
        go_ret2
        rw [HSO.out]
        refine ⟨?_, rfl⟩
        show Ending.returned (.tuple #[.int .i64 (((s : Int) + k) % (n : Int)), .bool true]) = _
        rw [hrem]
        rfl
    · have e : k = n := by omega
      subst e
      have hd : decide ((k : Int) < (k : Int)) = false := by simp
      go_wp2_with fail
      go_ret2
      have hnone : nextM x t = none := by
        unfold nextM
        rw [nextI_none (fun j hj => by rw [← HS.out, ← HN.out]; exact HE.out j (by rw [HN.out]; exact hj))]
        rfl
      rw [hnone]
      exact ⟨rfl, rfl⟩
end
end Go.Proofs.Ytbkknhlagohhhaa
