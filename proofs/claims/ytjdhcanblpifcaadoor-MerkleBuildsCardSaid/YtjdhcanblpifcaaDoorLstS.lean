/-
  A slice of texts that is an argument.
-/
import Derived.Test.YtjdhcanblpifcaaDoorFrame
import Derived.Test.YtjdhcanblpifcaaDoorBase
import Derived.Deep.SlicePairs
import Derived.Deep.Strs
import Derived.Carry
namespace Go.Proofs.YtjdhcanblpifcaaDoor
open Go.ChangeShapes Go.WideShapes Go.ChangeAt Go.RowKit Go.Deep Crv

set_option maxRecDepth 100000 in
/-- An argument of type []string. -/
theorem txs_of {H : Type} {enc : TypeId × Value → H} {W : World} {base : Nat} {v : Value} {d : DataW H} {ps : List MemPlace} (hv : Value.okWide Tryd.prog W .any base 38 v) (h : DataW.Trod enc Tryd.prog W 0 (fun _ => true) true 38 v d ps) :
    ∃ ls : List (List UInt8), Txs W v ls ∧ ls.length ≤ 9223372036854775807 := by
  have c9 : Tryd.prog.cellsOf 9 = 1 := by kernel_rfl
  obtain ⟨a0, len, cap, rfl⟩ := okWide_slice Tryd.underlying38 hv
  obtain ⟨fuel, hf⟩ := h
  rcases open_strs Tryd.underlying38 Tryd.underlying9 c9 hf with ⟨hcs, hx⟩ | ⟨a, len', cap', m, Sx, hcs, _, hl, hm, hmm, hx, hcell⟩
  · simp [Value.cells] at hcs
    obtain ⟨rfl, rfl, rfl⟩ := hcs
    exact ⟨[], ⟨none, 0, rfl, fun i hi => by simp at hi⟩, by simp⟩
  simp [Value.cells] at hcs
  obtain ⟨rfl, rfl, rfl⟩ := hcs
  simp only [if_true] at hmm
  subst hmm
  obtain ⟨b, off, spot⟩ := a
  have hlm : len ≤ 9223372036854775807 := by simp only [maxLen] at hm; omega
  by_cases hc0 : m = 0
  · subst hc0
    have hlen0 : len = 0 := by omega
    subst hlen0
    exact ⟨[], ⟨_, _, rfl, fun i hi => by simp at hi⟩, by simp⟩
  have hspot : spot = none := by simpa [Addr.add] using World.cell?_spot (hcell 0 (by omega)).1
  subst hspot
  have hcell' : ∀ j, j < m → W.cell? ⟨b, off + j, none⟩ = some (.string (Sx j)) := fun j hj => by rw [← Go.WideShapes.add_plain]; exact (hcell j hj).1
  refine ⟨(List.range len).map fun i => (Sx i).data.toList, ⟨some ⟨b, off, none⟩, m, by simp, fun i hi => ⟨b, off, rfl, ?_⟩⟩, by simpa using hlm⟩
  have hi' : i < len := by simpa using hi
  rw [hcell' i (by omega), List.getD_eq_getElem?_getD, List.getElem?_map, List.getElem?_range hi']
  simp only [Option.map_some, Option.getD_some]
end Go.Proofs.YtjdhcanblpifcaaDoor
