/-
  Repute: what is thought of addresses (mathematics).
-/
import Derived.Test.YtblfekecmahagaaDoorMap0
namespace Crv
open Go Go.Maps

/-- Score, wait, and until when it is left alone. -/
abbrev MK := Int × Int × Int
abbrev MKt := List (Int × MK)
/-- The bytes that came: kind, name, text. -/
abbrev PF := Int × List UInt8 × List UInt8
abbrev BNt := List (Int × PF)
def eM : Enc Int MK := ⟨fun a => .int .i64 a, fun p => .agg [.lit (.int .i64 p.1), .lit (.int .i64 p.2.1), .lit (.int .i64 p.2.2)], fun a b h => by injection h, fun _ => trivial⟩
def eP : Enc Int PF := ⟨fun a => .int .i64 a, fun p => .agg [.lit (.int .i64 p.1), .lit (.string p.2.1), .lit (.string p.2.2)], fun a b h => by injection h, fun _ => trivial⟩
def mkOf (M : MKt) (n : Int) : MK := (getK n M).getD (0, 0, 0)
def goodK (m : MK) : MK := (min (m.1 + 1) 20, 0, 0)
def waitK (w : Int) : Int := min (max (2 * w) 2) 32
def silK (m : MK) (now : Int) : MK := (max (m.1 - 1) (-20), waitK m.2.1, max m.2.2 (now + waitK m.2.1))
def goodM (M : MKt) (n : Int) : MKt := eM.set n (goodK (mkOf M n)) M
def silM (M : MKt) (n now : Int) : MKt := eM.set n (silK (mkOf M n) now) M
def banB (B : BNt) (n : Int) (p : PF) : BNt := if (getK n B).isSome = true then B else eP.set n p B
def mayB (M : MKt) (B : BNt) (n now : Int) : Bool := !(getK n B).isSome && decide ((mkOf M n).2.2 ≤ now)
/-- What marks keep. -/
def OkK (m : MK) : Prop := -20 ≤ m.1 ∧ m.1 ≤ 20 ∧ 0 ≤ m.2.1 ∧ m.2.1 ≤ 32 ∧ 0 ≤ m.2.2 ∧ m.2.2 ≤ 1099511627900
def OkM (M : MKt) : Prop := ∀ n m, getK n M = some m → OkK m
theorem okM_nil : OkM [] := fun n p h => by simp [getK] at h
theorem OkM.mk {M : MKt} (h : OkM M) (n : Int) : OkK (mkOf M n) := by
  unfold mkOf
  cases hg : getK n M with
  | none => exact ⟨by simp, by simp, by simp, by simp, by simp, by simp⟩
  | some m => exact h n m hg
theorem waitK_in {w : Int} (h : 0 ≤ w ∧ w ≤ 32) : 2 ≤ waitK w ∧ waitK w ≤ 32 := by unfold waitK; omega
theorem OkK.good {m : MK} (h : OkK m) : OkK (goodK m) := by
  unfold OkK goodK at *
  simp only
  omega
theorem OkK.sil {m : MK} (h : OkK m) {now : Int} (hn : 0 ≤ now ∧ now ≤ 1099511627776) : OkK (silK m now) := by
  have := waitK_in (w := m.2.1) ⟨h.2.2.1, h.2.2.2.1⟩
  unfold OkK silK at *
  simp only
  omega
theorem mkOf_set {M : MKt} (hu : Uniq M) (n k : Int) (m : MK) : mkOf (eM.set n m M) k = if k = n then m else mkOf M k := by
  unfold mkOf
  rw [getK_set eM hu]
  split <;> rfl
theorem OkM.set {M : MKt} (h : OkM M) (hu : Uniq M) (n : Int) {m : MK} (hm : OkK m) : OkM (eM.set n m M) := by
  intro k q hq
  rw [getK_set eM hu] at hq
  split at hq
  · injection hq with hq
    exact hq ▸ hm
  · exact h k q hq
theorem OkM.good {M : MKt} (h : OkM M) (hu : Uniq M) (n : Int) : OkM (goodM M n) := h.set hu n (h.mk n).good
theorem OkM.sil {M : MKt} (h : OkM M) (hu : Uniq M) (n : Int) {now : Int} (hn : 0 ≤ now ∧ now ≤ 1099511627776) : OkM (silM M n now) := h.set hu n ((h.mk n).sil hn)
theorem mkOf_good {M : MKt} (hu : Uniq M) (n k : Int) : mkOf (goodM M n) k = if k = n then goodK (mkOf M n) else mkOf M k := mkOf_set hu n k _
theorem mkOf_sil {M : MKt} (hu : Uniq M) (n now k : Int) : mkOf (silM M n now) k = if k = n then silK (mkOf M n) now else mkOf M k := mkOf_set hu n k _
theorem length_setM {M : MKt} (hu : Uniq M) (n : Int) (m : MK) : (eM.set n m M).length ≤ M.length + 1 := by
  rw [length_set eM hu]; split <;> omega
theorem getK_ban {B : BNt} (hu : Uniq B) (n k : Int) (p : PF) : getK k (banB B n p) = if k = n then some ((getK n B).getD p) else getK k B := by
  unfold banB
  cases h : getK n B with
  | none =>
    rw [if_neg (by simp), getK_set eP hu]
    split <;> rfl
  | some q =>
    rw [if_pos (by simp)]
    split
    · rename_i e
      rw [e, h]; rfl
    · rfl
theorem uniq_ban {B : BNt} (hu : Uniq B) (n : Int) (p : PF) : Uniq (banB B n p) := by
  unfold banB
  split
  · exact hu
  · exact hu.set eP n p
theorem length_ban {B : BNt} (hu : Uniq B) (n : Int) (p : PF) : (banB B n p).length ≤ B.length + 1 := by
  unfold banB
  split
  · omega
  · rw [length_set eP hu]; split <;> omega
end Crv
