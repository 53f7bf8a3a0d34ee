/-
  The laws' same: two slices of the same names.
-/
import Derived.Test.YtclggeicpdkkdaaBal14
namespace Go.Proofs.Ytclggeicpdkkdaa
open Go.RowKit Crv

theorem ld_idB (p : Value) : Instr.loadAt Ti p = ldRow Ti p := rfl
attribute [local go_sem ↓] ld_idB
set_option maxRecDepth 100000 in
set_option maxHeartbeats 1000000 in
theorem same_ids (w : World) (b1 b2 : Nat) (v1 v2 : Value) (xs : List (List UInt8)) (h1 : Ids w b1 v1 xs) (h2 : Ids w b2 v2 xs) (hn : xs.length ≤ 1000) :
    Calls Try.prog 22 #[v1, v2] w fun e w' => e = .returned (.bool true) ∧ ∃ m, w' = w.drewN m := by
  obtain ⟨a1, cap1, rfl, hc1⟩ := h1.form
  obtain ⟨a2, cap2, rfl, hc2⟩ := h2.form
  have H1 := Lib.hid hc1
  have H2 := Lib.hid hc2
  have H32 := Lib.hid h1.1
  clear hc1 hc2 h1 h2
  go_enter Try.func22, Try.ntmps22
  go_wp2_with fail
  go_loopw [13] (fun i wr => ∃ k m : Nat, k ≤ xs.length ∧ i = .int .i64 k ∧ wr = w.drewN m) (fun i _ => xs.length - (intOf i).toNat)
  case atStart => exact ⟨0, 0, by omega, rfl, rfl⟩
  case round =>
    obtain ⟨k, m, hk, rfl, rfl⟩ := hrel
    by_cases hlt : k < xs.length
    · obtain ⟨g1, rfl, _, _, r1⟩ := H1.out k hlt
      obtain ⟨g2, rfl, _, _, r2⟩ := H2.out k hlt
      obtain ⟨x, hx⟩ : ∃ x, x = xs[k] := ⟨_, rfl⟩
      have hxl : x.length = 32 := H32.out x (by rw [hx]; exact List.getElem_mem hlt)
      rw [← hx] at r1 r2
      have l1 : ∀ j, (ldRow Ti (.pointer (some ⟨g1, k * 32, none⟩))).run Try.prog (w.drewN j) = .ok (.agg (x.map byteV).toArray) (w.drewN j) := fun j => run_loadAt_mid (w.drewN j) g1 (k * 32) Ti (x.map byteV) (.array 32 5) r1 Try.underlying30 rfl (sz_id x hxl)
      have l2 : ∀ j, (ldRow Ti (.pointer (some ⟨g2, k * 32, none⟩))).run Try.prog (w.drewN j) = .ok (.agg (x.map byteV).toArray) (w.drewN j) := fun j => run_loadAt_mid (w.drewN j) g2 (k * 32) Ti (x.map byteV) (.array 32 5) r2 Try.underlying30 rfl (sz_id x hxl)
      have q1 : ∀ W, (binOp .neq Ti (.agg (x.map byteV).toArray) (.agg (x.map byteV).toArray)).run Try.prog W = .ok (.bool false) W := fun W => by
        rw [run_neq_bytes Ti 5 32 Try.underlying30 Try.underlying5 (by kernel_rfl) _ _ hxl hxl W]; simp
      have hd : decide (k < xs.length) = true := by simpa using hlt
      clear hx hxl r1 r2
      go_wp2_with fail
      go_quiet (fail)
      go_wp2_with fail
      go_roundw
      case rel => exact ⟨k + 1, _, by omega, by go_num, rfl⟩
      case measure => simp [intOf]; omega
    · have ek : k = xs.length := by omega
      subst ek
      go_wp2
      go_ret
      exact ⟨rfl, _, rfl⟩
end Go.Proofs.Ytclggeicpdkkdaa
