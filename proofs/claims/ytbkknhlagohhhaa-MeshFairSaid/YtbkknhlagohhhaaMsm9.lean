/-
  Mesh: Cast, Drop, Again, Late.
-/
import Derived.Test.YtbkknhlagohhhaaMsm8
namespace Go.Proofs.Ytbkknhlagohhhaa
open Go.RowKit Crv

theorem sendM_lost (x : MS) (fr : Int) (text : List UInt8) (to : Int) : (sendM x fr text to).1.lost ≤ x.lost + 1 := by
  unfold sendM
  repeat' split
  all_goals simp
/-- What Cast has done when k addresses are done. -/
def castM (x : MS) (fr : Int) (text : List UInt8) : Nat → MS
  | 0 => x
  | k + 1 => if (k : Int) = fr then castM x fr text k else (sendM (castM x fr text k) fr text k).1
theorem castM_n (x : MS) (fr : Int) (text : List UInt8) : ∀ k, (castM x fr text k).n = x.n
  | 0 => rfl
  | k + 1 => by
    unfold castM
    split
    · exact castM_n x fr text k
    · rw [sendM_n]; exact castM_n x fr text k
theorem castM_lost (x : MS) (fr : Int) (text : List UInt8) : ∀ k, (castM x fr text k).lost ≤ x.lost + k
  | 0 => Nat.le_refl _
  | k + 1 => by
    have ih := castM_lost x fr text k
    unfold castM
    split
    · omega
    · have := sendM_lost (castM x fr text k) fr text k
      omega
section
variable {W W' : World} {mb : Nat} {x : MS} {F : Nat → Prop}
theorem Mx.again {W W1 : World} {y : MS} (h : Mx W1 (And_new (And_new F W) W') mb y) (hs : W.heap.size ≤ W'.heap.size) : Mx W1 (And_new F W) mb y := h.mono fun b _ hb => by
  rcases hb with hb | hb
  · exact hb
  · exact .inr (Nat.le_trans hs hb)
theorem Mx.n64 (h : Mx W F mb x) : x.n ≤ 64 := by
  obtain ⟨_, _, _, h, _⟩ := h
  exact h.n64
theorem Mx.boxes (h : Mx W F mb x) : ∃ bb, W.cell? ⟨mb, 0, none⟩ = some (.slice (some ⟨bb, 0, none⟩) x.n x.n) := by
  obtain ⟨bb, _, _, h, _⟩ := h
  exact ⟨bb, h.boxes⟩
set_option maxHeartbeats 1000000 in
set_option maxRecDepth 100000 in
theorem cast_any (hX : Mx W F mb x) (hlo : x.lost ≤ 900000) (fr : Int) (text : List UInt8) : Calls Try.prog 39 #[.pointer (some ⟨mb, 0, none⟩), .int .i64 fr, tx text] W fun e w' =>
    e = .returned (.tuple #[]) ∧ Mx w' (And_new F W) mb (castM x fr text x.n) ∧ Fr F W w' := by
  obtain ⟨bb, hc0⟩ := hX.boxes
  have hn := hX.n64
  obtain ⟨n, hn1⟩ : ∃ n, n = x.n := ⟨_, rfl⟩
  have HN := Lib.hid hn1
  rw [← hn1] at hc0 hn ⊢
  have HS0 : Hid (Mx W (And_new F W) mb (castM x fr text 0) ∧ Fr F W W) := Lib.hid ⟨hX.mono fun b _ hb => .inl hb, Fr.refl _ _⟩
  have HLO := Lib.hid hlo
  clear hX hn1 hlo
  go_enter Try.func39, Try.ntmps39
  go_wp2_with fail
  go_loopw [12] (fun i wr => ∃ k : Nat, k ≤ n ∧ i = .int .i64 k ∧ Hid (Mx wr (And_new F W) mb (castM x fr text k) ∧ Fr F W wr)) (fun i _ => n - (intOf i).toNat)
  case atStart => exact ⟨0, by omega, rfl, HS0⟩
  case round =>
    obtain ⟨k, hk, rfl, HR⟩ := hrel
    clear HS0
    by_cases hlt : k < n
    · have hd : decide ((k : Int) < (n : Int)) = true := by simp; omega
      by_cases hfr : (k : Int) = fr
      · subst hfr
        have HC : Hid (castM x k text (k + 1) = castM x k text k) := Lib.hid (by rw [castM, if_pos rfl])
        go_wp2_with fail
        refine ⟨⟨k + 1, by omega, by go_num, Lib.hid (by rw [HC.out]; exact HR.out)⟩, ?_⟩
        simp [intOf]; omega
      · have HC : Hid (castM x fr text (k + 1) = (sendM (castM x fr text k) fr text k).1) := Lib.hid (by rw [castM, if_neg hfr])
        have hne : ((k : Int) != fr) = true := by simpa using hfr
        have HSE := Lib.hid (send_any (HR.out.1.below (belowSelf wr (.cells #[.int .i64 (k : Int)] 3))) (by have := castM_lost x fr text k; have := HLO.out; omega) fr k text wr.heap.size ((Mem.new wr 3 [.int .i64 (k : Int)]).cell 0))
        go_wp2_with fail
        refine HSE.out.mono ?_
        rintro e w1 ⟨rfl, hx1, hf1⟩
        have hsz := (belowSelf wr (.cells #[.int .i64 (k : Int)] 3)).size
        have hszW := HR.out.2.size
        have HX : Hid (Mx w1 (And_new F W) mb (castM x fr text (k + 1)) ∧ Fr F W w1) := Lib.hid ⟨by rw [HC.out]; exact hx1.again (Nat.le_trans hszW hsz), (HR.out.2.trans (Fr.of_below (F := F) (belowSelf wr _)) (fun i hi => .inl hi)).trans hf1 (fun i hi => hi)⟩
        clear hx1 hf1 hsz hszW
        go_wp2_with fail
        refine ⟨⟨k + 1, by omega, by go_num, HX⟩, ?_⟩
        simp [intOf]; omega
    · have e : k = n := by omega
      subst e
      have hd : decide ((k : Int) < (k : Int)) = false := by simp
      go_wp2_with fail
      go_end0
      exact ⟨rfl, HR.out⟩
set_option maxHeartbeats 1000000 in
set_option maxRecDepth 100000 in
theorem drop_any (hX : Mx W F mb x) (t f i : Int) : Calls Try.prog 69 #[.pointer (some ⟨mb, 0, none⟩), .int .i64 t, .int .i64 f, .int .i64 i] W fun e w' =>
    e = .returned (.bool (removeM x t f i).2.2) ∧ Mx w' (And_new F W) mb (removeM x t f i).1 ∧ Fr F W w' := by
  have HR := Lib.hid (remove_any hX t f i)
  clear hX
  go_enter Try.func69, Try.ntmps69
  go_wp2_with fail
  refine HR.out.mono ?_
  rintro e w1 ⟨rfl, hx1, hf1⟩
  have HX := Lib.hid hx1
  have HF := Lib.hid hf1
  clear hx1 hf1
  go_wp2_with fail
  go_ret
  exact ⟨rfl, HX.out, HF.out⟩
end
end Go.Proofs.Ytbkknhlagohhhaa
