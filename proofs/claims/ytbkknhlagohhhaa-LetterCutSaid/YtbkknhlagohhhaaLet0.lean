/-
  Package letter: a letter's cells; what its kind has.
-/
import Derived.Test.YtbkknhlagohhhaaBal8
import Derived.Test.YtbkknhlagohhhaaRow
import Derived.Test.YtbkknhlagohhhaaZp
namespace Go.Proofs.Ytbkknhlagohhhaa
open Go.RowKit Crv

abbrev Tlt : TypeId := 26
/-- A letter as values: its lists are slices. -/
structure LV where
  kind : Int
  fr : Int
  to : Int
  seq : Int
  id : List UInt8
  what : Int
  text : List UInt8
  pv : Value
  hv : Value
def ltC (l : LV) : List Value := .int .i64 l.kind :: .int .i64 l.fr :: .int .i64 l.to :: .int .i64 l.seq :: (l.id.map byteV ++ [.int .i64 l.what, tx l.text, l.pv, l.hv])
theorem length_ltC (l : LV) (h : l.id.length = 32) : (ltC l).length = 40 := by simp [ltC, h]
theorem sz_lt (l : LV) (h : l.id.length = 32) : (Try.prog.info? Tlt).map (·.size) = some (ltC l).length := by rw [length_ltC l h]; kernel_rfl
theorem ltC_tail (l : LV) (h : l.id.length = 32) (k : Nat) : (ltC l)[36 + k]? = [Value.int .i64 l.what, tx l.text, l.pv, l.hv][k]? := by
  unfold ltC
  rw [show 36 + k = (32 + k) + 1 + 1 + 1 + 1 by omega]
  simp only [List.getElem?_cons_succ]
  rw [List.getElem?_append_right (by rw [List.length_map, h]; omega), List.length_map, h, Nat.add_sub_cancel_left]
theorem ltC_rng {W : World} {g : Nat} {l : LV} (hm : Mem W g Tlt (ltC l)) : W.rangeAt g 4 (l.id.map byteV) := by
  intro j u hu
  rw [hm.cell]
  unfold ltC
  rw [show 4 + j = j + 1 + 1 + 1 + 1 by omega]
  simp only [List.getElem?_cons_succ]
  have hj := (List.getElem?_eq_some_iff.1 hu).1
  rw [List.getElem?_append_left hj]
  exact hu
/-- The plain cells of a letter in memory. -/
theorem lt_cells {W : World} {g : Nat} {l : LV} (hm : Mem W g Tlt (ltC l)) (h : l.id.length = 32) :
    (W.cell? ⟨g, 0, none⟩ = some (.int .i64 l.kind) ∧ W.cell? ⟨g, 1, none⟩ = some (.int .i64 l.fr) ∧ W.cell? ⟨g, 2, none⟩ = some (.int .i64 l.to) ∧ W.cell? ⟨g, 3, none⟩ = some (.int .i64 l.seq)) ∧
    W.cell? ⟨g, 36, none⟩ = some (.int .i64 l.what) ∧ W.cell? ⟨g, 37, none⟩ = some (tx l.text) ∧ W.cell? ⟨g, 38, none⟩ = some l.pv ∧ W.cell? ⟨g, 39, none⟩ = some l.hv :=
  ⟨⟨hm.cell 0, hm.cell 1, hm.cell 2, hm.cell 3⟩, (hm.cell 36).trans (ltC_tail l h 0), (hm.cell 37).trans (ltC_tail l h 1), (hm.cell 38).trans (ltC_tail l h 2), (hm.cell 39).trans (ltC_tail l h 3)⟩
def idK (k : Int) : Bool := decide (3 ≤ k) && decide (k ≤ 10)
def listK (k : Int) : Bool := k == 4
def whatK (k : Int) : Bool := k == 7 || k == 8 || k == 9
def textK (k : Int) : Bool := k == 8
def kindK (k : Int) : Bool := decide (1 ≤ k) && decide (k ≤ 10)
def adrK (n : Int) : Bool := decide (0 ≤ n) && decide (n ≤ 63)
theorem hasID_any (k : Int) (w : World) : Calls Try.prog 50 #[.int .i64 k] w fun e w' => e = .returned (.bool (idK k)) ∧ w = w' := by
  unfold idK
  by_cases h : 3 ≤ k
  all_goals
    simp only [h, decide_true, decide_false, Bool.true_and, Bool.false_and]
    go_enter Try.func50, Try.ntmps50
    go_wp2
    go_ret
    exact ⟨rfl, rfl⟩
theorem isKind_any (k : Int) (w : World) : Calls Try.prog 41 #[.int .i64 k] w fun e w' => e = .returned (.bool (kindK k)) ∧ w = w' := by
  unfold kindK
  by_cases h : 1 ≤ k
  all_goals
    simp only [h, decide_true, decide_false, Bool.true_and, Bool.false_and]
    go_enter Try.func41, Try.ntmps41
    go_wp2
    go_ret
    exact ⟨rfl, rfl⟩
theorem adr_any (k : Int) (w : World) : Calls Try.prog 42 #[.int .i64 k] w fun e w' => e = .returned (.bool (adrK k)) ∧ w = w' := by
  unfold adrK
  by_cases h : 0 ≤ k
  all_goals
    simp only [h, decide_true, decide_false, Bool.true_and, Bool.false_and]
    go_enter Try.func42, Try.ntmps42
    go_wp2
    go_ret
    exact ⟨rfl, rfl⟩
theorem hasLists_any (k : Int) (w : World) : Calls Try.prog 51 #[.int .i64 k] w fun e w' => e = .returned (.bool (listK k)) ∧ w = w' := by
  unfold listK
  go_enter Try.func51, Try.ntmps51
  go_wp2
  go_ret
  exact ⟨rfl, rfl⟩
theorem hasText_any (k : Int) (w : World) : Calls Try.prog 53 #[.int .i64 k] w fun e w' => e = .returned (.bool (textK k)) ∧ w = w' := by
  unfold textK
  go_enter Try.func53, Try.ntmps53
  go_wp2
  go_ret
  exact ⟨rfl, rfl⟩
theorem hasWhat_any (k : Int) (w : World) : Calls Try.prog 44 #[.int .i64 k] w fun e w' => e = .returned (.bool (whatK k)) ∧ w = w' := by
  unfold whatK
  cases h7 : k == 7 <;> cases h8 : k == 8
  all_goals
    simp only [Bool.true_or, Bool.false_or]
    go_enter Try.func44, Try.ntmps44
    go_wp2
    go_ret
    exact ⟨rfl, rfl⟩
end Go.Proofs.Ytbkknhlagohhhaa
