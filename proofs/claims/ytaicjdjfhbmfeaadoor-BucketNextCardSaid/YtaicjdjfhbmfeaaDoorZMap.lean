/-
  A map from numbers to numbers in memory, as counts.
-/
import Derived.Test.YtaicjdjfhbmfeaaDoorBase
import Derived.Maps.OwnSet
import Derived.Maps.OwnOps
import Derived.Maps.Views
import Derived.Maps.Keyed
import Derived.WalkArith
import Derived.Carry
namespace Go.Proofs.YtaicjdjfhbmfeaaDoor
open Go.RowKit Go.Maps Crv

abbrev Tmii : TypeId := 44
abbrev Tin : TypeId := 3
abbrev keyI (i : Nat) : Lit := .int .i64 (i : Int)
abbrev litI (i : Nat) : DataW Unit := .lit (.int .i64 (i : Int))
theorem keyedI : Keyed Tryd.prog Tin := int_keyed Tryd.underlying3
theorem keyI_of (i : Nat) (hi : i ≤ 65536) : keyOf Tryd.prog Tin (.int .i64 (i : Int)) = some (keyI i) := keyOf_int_mk Tryd.underlying3 (WalkArith.wf_i64 (by omega))
theorem zeroI (w : World) : (zeroValue Tin).run Tryd.prog w = .ok (.int .i64 0) w := by kernel_rfl
theorem keyI_ne {i j : Nat} (h : i ≠ j) : keyI i ≠ keyI j := fun e => h (by injection e with _ e; omega)
/-- A map in block g: at most n entries; what each number has; which are there; how many. -/
def MpI (W : World) (g n : Nat) (c : Nat → Nat) (h : Nat → Bool) (N : Nat) : Prop :=
  ∃ D : DataW Unit, W.ownsMap Tryd.prog Tin (plainElem Tryd.prog Tin) g n D ∧ (∀ j, D.atKey (keyI j) (litI 0) = litI (c j)) ∧ (∀ j, Maps.has D (keyI j) = h j) ∧ Maps.size D = N
section
variable {W W' : World} {g n N : Nat} {c : Nat → Nat} {h : Nat → Bool}
theorem MpI.made (W : World) : MpI (W.alloc (.map #[] 0)) W.heap.size 0 (fun _ => 0) (fun _ => false) 0 := ⟨.map [], World.ownsMap_made W _ _ _, fun _ => rfl, fun _ => rfl, rfl⟩
theorem MpI.of (m : MpI W g n c h N) (hb : W'.heap[g]? = W.heap[g]?) : MpI W' g n c h N := by
  obtain ⟨D, ⟨es, cl, h1, h2⟩, h3⟩ := m
  exact ⟨D, ⟨es, cl, hb.trans h1, h2⟩, h3⟩
theorem MpI.lt (m : MpI W g n c h N) : g < W.heap.size := by
  obtain ⟨D, h1, _⟩ := m
  exact h1.lt
theorem MpI.look (m : MpI W g n c h N) (j : Nat) (hj : j ≤ 65536) : (Instr.lookup Tmii (.map (some g)) (.int .i64 (j : Int)) false).run Tryd.prog W = .ok (.int .i64 (c j : Int)) W := by
  obtain ⟨D, h1, h2, _⟩ := m
  obtain ⟨z, hrun, hat, _⟩ := h1.lookup_int keyedI Tryd.underlying44 Tryd.underlying3 (zeroI W) (keyI_of j hj)
  have h5 : litI (c j) = .lit (.int .i64 z) := (h2 j).symm.trans hat
  simp only [litI, DataW.lit.injEq, Lit.int.injEq, true_and] at h5
  rw [hrun, h5]
theorem MpI.put (m : MpI W g n c h N) (j v : Nat) (hj : j ≤ 65536) (hv : v ≤ 65536) (hn : n ≤ 65536) : ∃ W', (Instr.mapUpdate Tmii (.map (some g)) (.int .i64 (j : Int)) (.int .i64 (v : Int))).run Tryd.prog W = .ok () W' ∧ MpI W' g (n + 1) (fun i => if i = j then v else c i) (fun i => if i = j then true else h i) (if h j then N else N + 1) ∧ W.grownBy W' (some g) := by
  obtain ⟨D, h1, h2, h3, h4⟩ := m
  obtain ⟨W', hrun, ho, hg⟩ := h1.update keyedI Tryd.underlying44 (by simp only [maxLen]; omega) (keyI_of j hj) (plainElem_int (H := Unit) (P := Tryd.prog) (e := Tin) (q := .i64) (a := (v : Int)) Tryd.underlying3 (WalkArith.wf_i64 (by omega)))
  refine ⟨W', hrun, ⟨_, ho, fun i => ?_, fun i => ?_, ?_⟩, hg⟩
  · show (D.put (keyI j) (litI v)).atKey (keyI i) (litI 0) = litI (if i = j then v else c i)
    by_cases e : i = j
    · subst e
      rw [if_pos rfl, atKey_put_same h1.isMap (show WideAt.IsKeyLit (keyI i) from trivial)]
    · rw [if_neg e, atKey_put_other (keyI_ne e), h2]
  · show Maps.has (D.put (keyI j) (litI v)) (keyI i) = if i = j then true else h i
    by_cases e : i = j
    · subst e
      rw [if_pos rfl, has_put_same h1.isMap (show WideAt.IsKeyLit (keyI i) from trivial)]
    · rw [if_neg e, has_put_other (keyI_ne e), h3]
  · rw [size_put (h1.tidy keyedI), h3, h4]
theorem MpI.len (m : MpI W g n c h N) (ty : TypeId) : (Builtin.len_ #[Tmii] ty #[.map (some g)]).run Tryd.prog W = .ok (.int .i64 (N : Int)) W := by
  obtain ⟨D, h1, _, _, h4⟩ := m
  rw [← h4]
  exact h1.len Tryd.underlying44 ty
theorem MpI.le (m : MpI W g n c h N) : N ≤ n := by
  obtain ⟨D, h1, _, _, h4⟩ := m
  rw [← h4]
  exact h1.size_le
end
end Go.Proofs.YtaicjdjfhbmfeaaDoor
