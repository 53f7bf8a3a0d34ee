/-
  An argument that is a slice of acts about addresses.
-/
import Derived.Test.YtblfekecmahagaaDoorFrame
import Derived.Test.YtblfekecmahagaaDoorRep6
import Derived.Deep.SlicePairs
import Derived.Deep.Strs
import Derived.Carry
namespace Go.Proofs.YtblfekecmahagaaDoor
open Go.ChangeShapes Go.WideShapes Go.ChangeAt Go.RowKit Go.Deep Crv

set_option maxRecDepth 100000 in
/-- The cells of an act. -/
theorem act23_of {H : Type} {enc : TypeId × Value → H} {W : World} {n : Nat} {cs : List Value} {x : DataW H × List MemPlace} (h : DataW.trod enc Tryd.prog W 0 (fun _ => true) true n Tar cs = some x) : ∃ A : AR, cs = arC A := by
  obtain ⟨xs, k, -, -, hlen, hxl, hf⟩ := DataW.trod_struct Tryd.underlying29 h
  have c0 : Tryd.prog.cellsOf 3 = 1 := by kernel_rfl
  have c1 : Tryd.prog.cellsOf 9 = 1 := by kernel_rfl
  rw [show Tryd.prog.cellsOf Tar = 5 by kernel_rfl] at hlen
  match xs, hxl, cs, hlen with
  | [y0, y1, y2, y3, y4], _, [v0, v1, v2, v3, v4], _ =>
    have g0 : DataW.trod enc Tryd.prog W 0 (fun _ => true) true k 3 [v0] = some y0 := by simpa [c0] using hf 0 _ rfl
    have g1 : DataW.trod enc Tryd.prog W 0 (fun _ => true) true k 3 [v1] = some y1 := by simpa [c0] using hf 1 _ rfl
    have g2 : DataW.trod enc Tryd.prog W 0 (fun _ => true) true k 3 [v2] = some y2 := by simpa [c0] using hf 2 _ rfl
    have g3 : DataW.trod enc Tryd.prog W 0 (fun _ => true) true k 9 [v3] = some y3 := by simpa [c1] using hf 3 _ rfl
    have g4 : DataW.trod enc Tryd.prog W 0 (fun _ => true) true k 9 [v4] = some y4 := by simpa [c1] using hf 4 _ rfl
    obtain ⟨n0, e0, -, w0⟩ := DataW.trod_int (k := .i64) Tryd.underlying3 g0
    obtain ⟨n1, e1, -, w1⟩ := DataW.trod_int (k := .i64) Tryd.underlying3 g1
    obtain ⟨n2, e2, -, w2⟩ := DataW.trod_int (k := .i64) Tryd.underlying3 g2
    obtain ⟨s3, e3, -, w3⟩ := DataW.trod_string Tryd.underlying9 g3
    obtain ⟨s4, e4, -, w4⟩ := DataW.trod_string Tryd.underlying9 g4
    simp only [List.cons.injEq, and_true] at e0 e1 e2 e3 e4
    subst e0 e1 e2 e3 e4
    refine ⟨(n0, n1, n2, s3.data.toList, s4.data.toList), ?_⟩
    unfold arC
    simp only [tx, ← str_eq]
set_option maxRecDepth 100000 in
/-- An argument of type []Act. -/
theorem acts23_of {H : Type} {enc : TypeId × Value → H} {W : World} {base : Nat} {v : Value} {d : DataW H} {ps : List MemPlace} (hv : Value.okWide Tryd.prog W .any base 22 v) (h : DataW.Trod enc Tryd.prog W 0 (fun _ => true) true 22 v d ps) :
    ∃ acts : List AR, ActsR W v acts := by
  have c4 : Tryd.prog.cellsOf Tar = 5 := by kernel_rfl
  obtain ⟨a0, len, cap, rfl⟩ := okWide_slice Tryd.underlying22 hv
  obtain ⟨fuel, hf⟩ := h
  rcases open_slice Tryd.underlying22 hf with ⟨hcs, _⟩ | ⟨a, len', cap', m, nn, D, Pl, hcs, _, hl, hm, hmm, _, hcell⟩
  · simp [Value.cells] at hcs
    obtain ⟨rfl, rfl, rfl⟩ := hcs
    exact ⟨[], ⟨none, 0, rfl, Nat.le_refl _, fun i hi => by simp at hi⟩⟩
  simp [Value.cells] at hcs
  obtain ⟨rfl, rfl, rfl⟩ := hcs
  simp only [if_true] at hmm
  subst hmm
  rw [c4] at hcell
  obtain ⟨b, off, spot⟩ := a
  by_cases hc0 : len = 0
  · subst hc0
    exact ⟨[], ⟨_, _, rfl, Nat.zero_le _, fun i hi => by simp at hi⟩⟩
  have each : ∀ i, i < m → ∃ A : AR, ∀ j u, (arC A)[j]? = some u → W.cell? ((⟨b, off, spot⟩ : Addr).add (i * 5 + j)) = some u := fun i hi => by
    obtain ⟨cs', h1, h2⟩ := hcell i hi
    obtain ⟨_, hlen, hat⟩ := World.cells?_some h1
    obtain ⟨A, rfl⟩ := act23_of h2
    refine ⟨A, fun j u hu => ?_⟩
    obtain ⟨hj, rfl⟩ := List.getElem?_eq_some_iff.1 hu
    have h3 := hat j (by omega)
    rw [Go.Deep.add_add] at h3
    rw [h3, hu]
  have hspot : spot = none := by
    obtain ⟨A, hA⟩ := each 0 (by omega)
    have := World.cell?_spot (hA 0 _ rfl)
    simpa [Addr.add] using this
  subst hspot
  have hz : ∀ i, ∃ A : AR, i < m → ∀ j u, (arC A)[j]? = some u → W.cell? ⟨b, off + i * 5 + j, none⟩ = some u := fun i => by
    by_cases hi : i < m
    · obtain ⟨A, hc⟩ := each i hi
      refine ⟨A, fun _ j u hu => ?_⟩
      have := hc j u hu
      rwa [Go.WideShapes.add_plain, ← Nat.add_assoc] at this
    · exact ⟨(0, 0, 0, [], []), fun h => absurd h hi⟩
  obtain ⟨F, hF⟩ := Classical.skolem.1 hz
  refine ⟨(List.range len).map F, ⟨some ⟨b, off, none⟩, m, by simp, by simpa using hl, fun i hi => ?_⟩⟩
  · have hi' : i < len := by simpa using hi
    have hi2 : i < m := by omega
    refine ⟨b, off, rfl, World.block_lt_of_cell? W _ ((hF i hi2) 0 _ rfl), fun j u hu => ?_⟩
    simp only [List.getElem_map, List.getElem_range] at hu
    exact (hF i hi2) j u hu
end Go.Proofs.YtblfekecmahagaaDoor
