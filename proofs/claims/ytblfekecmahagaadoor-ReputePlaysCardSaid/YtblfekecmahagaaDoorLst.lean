/-
  A slice of numbers that is an argument.
-/
import Derived.Test.YtblfekecmahagaaDoorFrame
import Derived.Test.YtblfekecmahagaaDoorBase
import Derived.Deep.SlicePairs
import Derived.Deep.Strs
import Derived.Carry
namespace Go.Proofs.YtblfekecmahagaaDoor
open Go.ChangeShapes Go.WideShapes Go.ChangeAt Go.RowKit Go.Deep Crv

/-- A slice value that reads as a list of numbers. -/
def Zs (w : World) (v : Value) (xs : List Int) : Prop := ∃ a cap, v = .slice a xs.length cap ∧ ∀ i, i < xs.length → ∃ b off, a = some ⟨b, off, none⟩ ∧ w.cell? ⟨b, off + i, none⟩ = some (.int .i64 (xs.getD i 0))
theorem Zs.below {w w' : World} {v : Value} {xs : List Int} (h : Zs w v xs) (hb : Below w.heap.size w w') : Zs w' v xs := by
  obtain ⟨a, cap, hv, hc⟩ := h
  refine ⟨a, cap, hv, fun i hi => ?_⟩
  obtain ⟨b, off, ha, hcell⟩ := hc i hi
  exact ⟨b, off, ha, (hb.cell (p := ⟨b, off + i, none⟩) (World.block_lt_of_cell? w _ hcell)).trans hcell⟩
set_option maxRecDepth 100000 in
/-- An argument of type []int. -/
theorem zs_of {H : Type} {enc : TypeId × Value → H} {W : World} {base : Nat} {v : Value} {d : DataW H} {ps : List MemPlace} (hv : Value.okWide Tryd.prog W .any base 23 v) (h : DataW.Trod enc Tryd.prog W 0 (fun _ => true) true 23 v d ps) :
    ∃ ks : List Int, Zs W v ks ∧ ks.length ≤ 9223372036854775807 ∧ ∀ k ∈ ks, -9223372036854775808 ≤ k ∧ k < 9223372036854775808 := by
  have c3 : Tryd.prog.cellsOf 3 = 1 := by kernel_rfl
  obtain ⟨a0, len, cap, rfl⟩ := okWide_slice Tryd.underlying23 hv
  obtain ⟨fuel, hf⟩ := h
  rcases open_slice Tryd.underlying23 hf with ⟨hcs, _⟩ | ⟨a, len', cap', m, nn, D, Pl, hcs, _, hl, hm, hmm, _, hcell⟩
  · simp [Value.cells] at hcs
    obtain ⟨rfl, rfl, rfl⟩ := hcs
    exact ⟨[], ⟨none, 0, rfl, fun i hi => by simp at hi⟩, by simp, by simp⟩
  simp [Value.cells] at hcs
  obtain ⟨rfl, rfl, rfl⟩ := hcs
  simp only [if_true] at hmm
  subst hmm
  rw [c3] at hcell
  have each : ∀ i, i < m → ∃ n : Int, W.cell? (a.add i) = some (.int .i64 n) ∧ -9223372036854775808 ≤ n ∧ n < 9223372036854775808 := fun i hi => by
    obtain ⟨cs', h1, h2⟩ := hcell i hi
    obtain ⟨_, hlen, hat⟩ := World.cells?_some h1
    obtain ⟨n0, e0, _, w0⟩ := DataW.trod_int (k := .i64) Tryd.underlying3 h2
    subst e0
    have h3 := hat 0 (by omega)
    obtain ⟨l1, l2⟩ := bounds_i64 w0
    refine ⟨n0, ?_, l1, by omega⟩
    rw [Nat.mul_one] at h3
    rw [Go.Deep.add_add] at h3
    simpa using h3
  obtain ⟨b, off, spot⟩ := a
  have hlm : len ≤ 9223372036854775807 := by simp only [maxLen] at hm; omega
  by_cases hc0 : len = 0
  · subst hc0
    exact ⟨[], ⟨_, _, rfl, fun i hi => by simp at hi⟩, by simp, by simp⟩
  have hspot : spot = none := by
    obtain ⟨n, hn, _⟩ := each 0 (by omega)
    simpa [Addr.add] using World.cell?_spot hn
  subst hspot
  have hz : ∀ i, ∃ z : Int, i < m → W.cell? ⟨b, off + i, none⟩ = some (.int .i64 z) ∧ -9223372036854775808 ≤ z ∧ z < 9223372036854775808 := fun i => by
    by_cases hi : i < m
    · obtain ⟨n, hn, hr⟩ := each i hi
      rw [Go.WideShapes.add_plain] at hn
      exact ⟨n, fun _ => ⟨hn, hr⟩⟩
    · exact ⟨0, fun h => absurd h hi⟩
  obtain ⟨Z, hZ⟩ := Classical.skolem.1 hz
  refine ⟨(List.range len).map Z, ⟨some ⟨b, off, none⟩, m, by simp, fun i hi => ⟨b, off, rfl, ?_⟩⟩, by simpa using hlm, ?_⟩
  · have hi' : i < len := by simpa using hi
    rw [(hZ i (by omega)).1, List.getD_eq_getElem?_getD, List.getElem?_map, List.getElem?_range hi']
    rfl
  · intro k hk
    obtain ⟨i, hi, rfl⟩ := List.mem_map.1 hk
    exact (hZ i (by have := List.mem_range.1 hi; omega)).2

end Go.Proofs.YtblfekecmahagaaDoor
