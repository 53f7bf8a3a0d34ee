/-
  Mesh: Send to one address, Cast.
-/
import Derived.Test.YtbkknhlagohhhaaMsm4
namespace Go.Proofs.Ytbkknhlagohhhaa
open Go.RowKit Crv

section
variable {W W' : World} {mb bb : Nat} {qb : Nat → Nat} {sv : Nat → Nat → Value} {x : MS} {F : Nat → Prop}
set_option maxHeartbeats 1000000 in
set_option maxRecDepth 100000 in
theorem send_any (hX : Mx W F mb x) (hlo : x.lost ≤ 1000000) (fr to : Int) (text : List UInt8) (g : Nat) (hg : W.cell? ⟨g, 0, none⟩ = some (.int .i64 to)) : Calls Try.prog 38 #[.pointer (some ⟨mb, 0, none⟩), .int .i64 fr, tx text, .slice (some ⟨g, 0, none⟩) 1 1] W fun e w' =>
    e = .returned (.int .i64 (sendM x fr text to).2) ∧ Mx w' (And_new F W) mb (sendM x fr text to).1 ∧ Fr F W w' := by
  have HS := Lib.hid (send1_any hX hlo fr to text)
  clear hX hlo
  obtain ⟨y, hy⟩ : ∃ y, y = (sendM x fr text to).1 := ⟨_, rfl⟩
  obtain ⟨er, her⟩ : ∃ er, er = (sendM x fr text to).2 := ⟨_, rfl⟩
  rw [← hy, ← her] at HS ⊢
  clear hy her
  go_enter Try.func38, Try.ntmps38
  go_wp2_with fail
  go_loopw [9, 15] (fun l i wr => (i = .int .i64 0 ∧ l = .int .i64 0 ∧ W = wr) ∨ (i = .int .i64 1 ∧ l = .int .i64 er ∧ Hid (Mx wr (And_new F W) mb y ∧ Fr F W wr))) (fun _ i _ => 1 - (intOf i).toNat)
  case atStart => exact .inl ⟨rfl, rfl, rfl⟩
  case round =>
    rcases hrel with ⟨rfl, rfl, rfl⟩ | ⟨rfl, rfl, HR⟩
    · go_wp2_with fail
      refine HS.out.mono ?_
      rintro e w' ⟨rfl, hr⟩
      have HR := Lib.hid hr
      clear hr
      by_cases h0 : er = 0
      · subst h0
        go_wp2_with fail
        refine ⟨.inr ⟨by go_num, rfl, HR⟩, ?_⟩
        simp [intOf]
      · have hne : ((er : Int) != 0) = true := by simpa using h0
        go_wp2_with fail
        refine ⟨.inr ⟨by go_num, rfl, HR⟩, ?_⟩
        simp [intOf]
    · go_wp2_with fail
      go_ret
      exact ⟨rfl, HR.out⟩
end
end Go.Proofs.Ytbkknhlagohhhaa
