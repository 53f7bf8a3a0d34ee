/-
  From the rows' condition on the listed variables to what the walks ask; the witness's world.
-/
import Derived.Test.YtblfekecmahagaaDoorRows
import Derived.Test.YtblfekecmahagaaDoorTie
import Derived.Test.YtblfekecmahagaaDoorCards
import Derived.Test.YtblfekecmahagaaDoorMix
import Derived.ProofKit
import Derived.LaidMore
import Derived.OpenShut
import Derived.ShutString
import Derived.ChangeOld
import Derived.Stop.Joined
import Derived.Lib.LaidTab
import Derived.SevenTiedAt
namespace Go.Proofs.YtblfekecmahagaaDoor
open Go.ChangeShapes Go.WideShapes Go.ChangeAt Go.RowKit Crv
open Go.ChangeMaps (open_string shut_string)

theorem own : ownKnob Tryd.prog.godebug = none := by kernel_rfl
theorem laidOut : laidOutB Tryd.prog = true := by kernel_rfl
theorem gInit : Tryd.prog.globalNamed "caravan/hash.initialWords" = some 0 := by kernel_rfl
theorem gRound : Tryd.prog.globalNamed "caravan/hash.roundWords" = some 1 := by kernel_rfl
theorem tInit : (Tryd.prog.globals[0]?).map (·.type) = some 89 := by kernel_rfl
theorem tRound : (Tryd.prog.globals[1]?).map (·.type) = some 118 := by kernel_rfl

/-- The list of every row. -/
def laid2 : List (String × DataW Unit) := [("caravan/hash.initialWords", Rows.laid_caravan_hash_initialWords), ("caravan/hash.roundWords", Rows.laid_caravan_hash_roundWords)]

theorem laid_of_var {W : World} {name : String} {g : Nat} {cs : Array Value} {l : List Value} (hg : Tryd.prog.globalNamed name = some g) (hv : W.var? Tryd.prog name = some cs) (hl : cs.toList = l) : Laid W g l := by
  subst hl
  simp only [World.var?, hg, Option.bind_some] at hv
  split at hv
  · rename_i c t fr h
    cases hv
    exact ⟨t, fr, by simpa using h⟩
  · cases hv

/-- WHAT THE CONDITION GIVES THE WALKS. -/
theorem of_laid {W : World} (h : laidMetH Tryd.prog laid2 W) : Consts W := by
  rw [MakeChecks.laidMetH_plain _ _ _ (by kernel_rfl)] at h
  obtain ⟨ps, ⟨g0, t0, cs0, f0, p0, q0, hg0, ht0, hv0, hd0, ⟨g1, t1, cs1, f1, p1, q1, hg1, ht1, hv1, hd1, _, _⟩, _⟩, _, _⟩ := h
  obtain rfl := Option.some.inj (gInit.symm.trans hg0)
  obtain rfl := Option.some.inj (gRound.symm.trans hg1)
  obtain rfl := Option.some.inj (tInit.symm.trans ht0)
  obtain rfl := Option.some.inj (tRound.symm.trans ht1)
  have e0 := Lib.cells_of_tab (zs := init.list.map fun x : Nat => (x : Int)) (k := .u32) Tryd.underlying89 Tryd.underlying77 (by kernel_rfl) (by kernel_rfl) hd0
  have e1 := Lib.cells_of_tab (zs := keyList.map fun x : Nat => (x : Int)) (k := .u32) Tryd.underlying118 Tryd.underlying77 (by kernel_rfl) (by kernel_rfl) hd1
  refine ⟨laid_of_var gInit hv0 ?_, laid_of_var gRound hv1 ?_⟩
  · rw [e0]; rfl
  · rw [e1]; rfl

/-- The door's own heap meets the condition. -/
theorem door_met (os : Os) (args : Array Value) : laidMetH Tryd.prog laid2 ((World.doorLaid Tryd.prog 400 os).forCall (fun _ _ => 0) ⟨#[], args, []⟩).memory :=
  laidMetH_of_parts3 (fuel := 70) (laidMet_of_run' 70 (by kernel_rfl) (by kernel_rfl)) (by kernel_rfl) (by kernel_rfl)
end Go.Proofs.YtblfekecmahagaaDoor
