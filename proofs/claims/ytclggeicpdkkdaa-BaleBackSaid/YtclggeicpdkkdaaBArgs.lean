/-
  Arguments of a law that are slices: of pairs of numbers, of texts, of numbers; each argument reads in a later world as it did.
-/
import Derived.Test.YtclggeicpdkkdaaBFrame
import Derived.Test.YtclggeicpdkkdaaBLaw4
import Derived.Deep.SlicePairs
import Derived.Deep.Strs
import Derived.Carry
namespace Go.Proofs.Ytclggeicpdkkdaa
open Go.ChangeShapes Go.WideShapes Go.ChangeAt Go.RowKit Go.Deep Crv

theorem laidOutB' : laidOutB Try.prog = true := by kernel_rfl

theorem pairs_of {H : Type} {enc : TypeId × Value → H} {W : World} {base : Nat} {v : Value} {d : DataW H} {ps : List MemPlace} (hv : Value.okWide Try.prog W .any base 51 v) (h : DataW.Trod enc Try.prog W 0 (fun _ => true) true 51 v d ps) :
    ∃ ts : List (Int × Int), Pairs W v ts ∧ ts.length ≤ 9223372036854775807 := by
  obtain ⟨a0, len, cap, rfl⟩ := okWide_slice Try.underlying51 hv
  obtain ⟨fuel, hf⟩ := h
  rcases open_slice_pairs Try.underlying51 Try.underlying58 (by kernel_rfl) rfl rfl (by kernel_rfl) (by kernel_rfl) hf with ⟨hcs, _⟩ | ⟨a, len', cap', m, nn, V0, V1, D0, D1, P0, P1, hcs, _, hl, hm, hmm, _, hcell⟩
  · simp [Value.cells] at hcs
    obtain ⟨rfl, rfl, rfl⟩ := hcs
    exact ⟨[], ⟨none, 0, rfl, fun i hi => by simp at hi⟩, by simp⟩
  simp [Value.cells] at hcs
  obtain ⟨rfl, rfl, rfl⟩ := hcs
  simp only [if_true] at hmm
  subst hmm
  obtain ⟨b, off, spot⟩ := a
  have hlm : len ≤ 9223372036854775807 := by simp only [maxLen] at hm; omega
  by_cases hc0 : len = 0
  · subst hc0
    exact ⟨[], ⟨_, _, rfl, fun i hi => by simp at hi⟩, by simp⟩
  have hspot : spot = none := by simpa [Addr.add] using World.cell?_spot (hcell 0 (by omega)).1
  subst hspot
  refine ⟨(List.range len).map fun i => (intOf (V0 i), intOf (V1 i)), ⟨some ⟨b, off, none⟩, m, by simp, fun i hi => ⟨b, off, rfl, ?_⟩⟩, by simpa using hlm⟩
  have hi' : i < len := by simpa using hi
  obtain ⟨c0, c1, t0, t1⟩ := hcell i (by omega)
  obtain ⟨n0, e0, _, w0⟩ := DataW.trod_int (k := .i64) Try.underlying3 t0
  obtain ⟨n1, e1, _, w1⟩ := DataW.trod_int (k := .i64) Try.underlying3 t1
  simp only [List.cons.injEq, and_true] at e0 e1
  rw [Go.WideShapes.add_plain] at c0 c1
  have hb := World.block_lt_of_cell? W _ c0
  obtain ⟨l1, l2⟩ := bounds_i64 w1
  rw [e0] at c0
  rw [e1, ← Nat.add_assoc] at c1
  simp only [List.getElem_map, List.getElem_range, e0, e1]
  exact ⟨c0, c1, hb, by simpa [intOf] using l1, by simp [intOf]; omega⟩
end Go.Proofs.Ytclggeicpdkkdaa
