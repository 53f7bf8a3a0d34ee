/-
  An argument that is a slice of acts on a quota.
-/
import Derived.Test.YtbodoodgdojgoaaPArg
import Derived.Test.YtbodoodgdojgoaaQAct
namespace Go.Proofs.Ytbodoodgdojgoaa
open Go.ChangeShapes Go.WideShapes Go.ChangeAt Go.RowKit Go.Deep Crv

set_option maxRecDepth 100000 in
/-- The cells of an act. -/
theorem act24_of {H : Type} {enc : TypeId × Value → H} {W : World} {n : Nat} {cs : List Value} {x : DataW H × List MemPlace} (h : DataW.trod enc Try.prog W 0 (fun _ => true) true n Tac cs = some x) : ∃ A : AQ, cs = aqC A := by
  obtain ⟨xs, k, -, -, hlen, hxl, hf⟩ := DataW.trod_struct Try.underlying33 h
  have c0 : Try.prog.cellsOf 3 = 1 := by kernel_rfl
  rw [show Try.prog.cellsOf Tac = 3 by kernel_rfl] at hlen
  match xs, hxl, cs, hlen with
  | [y0, y1, y2], _, [v0, v1, v2], _ =>
    have g0 : DataW.trod enc Try.prog W 0 (fun _ => true) true k 3 [v0] = some y0 := by simpa [c0] using hf 0 _ rfl
    have g1 : DataW.trod enc Try.prog W 0 (fun _ => true) true k 3 [v1] = some y1 := by simpa [c0] using hf 1 _ rfl
    have g2 : DataW.trod enc Try.prog W 0 (fun _ => true) true k 3 [v2] = some y2 := by simpa [c0] using hf 2 _ rfl
    obtain ⟨n0, e0, -, w0⟩ := DataW.trod_int (k := .i64) Try.underlying3 g0
    obtain ⟨n1, e1, -, w1⟩ := DataW.trod_int (k := .i64) Try.underlying3 g1
    obtain ⟨n2, e2, -, w2⟩ := DataW.trod_int (k := .i64) Try.underlying3 g2
    simp only [List.cons.injEq, and_true] at e0 e1 e2
    subst e0 e1 e2
    exact ⟨(n0, n1, n2), rfl⟩
set_option maxRecDepth 100000 in
/-- An argument of type []Act. -/
theorem acts24_of {H : Type} {enc : TypeId × Value → H} {W : World} {base : Nat} {v : Value} {d : DataW H} {ps : List MemPlace} (hv : Value.okWide Try.prog W .any base 22 v) (h : DataW.Trod enc Try.prog W 0 (fun _ => true) true 22 v d ps) :
    ∃ acts : List AQ, ActsQ W v acts := by
  have c4 : Try.prog.cellsOf Tac = 3 := by kernel_rfl
  obtain ⟨a0, len, cap, rfl⟩ := okWide_slice Try.underlying22 hv
  obtain ⟨fuel, hf⟩ := h
  rcases open_slice Try.underlying22 hf with ⟨hcs, _⟩ | ⟨a, len', cap', m, nn, D, Pl, hcs, _, hl, hm, hmm, _, hcell⟩
  · simp [Value.cells] at hcs
    obtain ⟨rfl, rfl, rfl⟩ := hcs
    exact ⟨[], ⟨none, 0, rfl, Nat.le_refl _, fun i hi => by simp at hi⟩⟩
  simp [Value.cells] at hcs
  obtain ⟨rfl, rfl, rfl⟩ := hcs
  simp only [if_true] at hmm
  subst hmm
  rw [c4] at hcell
  obtain ⟨b, off, spot⟩ := a
  by_cases hc0 : len = 0
  · subst hc0
    exact ⟨[], ⟨_, _, rfl, Nat.zero_le _, fun i hi => by simp at hi⟩⟩
  have each : ∀ i, i < m → ∃ A : AQ, ∀ j u, (aqC A)[j]? = some u → W.cell? ((⟨b, off, spot⟩ : Addr).add (i * 3 + j)) = some u := fun i hi => by
    obtain ⟨cs', h1, h2⟩ := hcell i hi
    obtain ⟨_, hlen, hat⟩ := World.cells?_some h1
    obtain ⟨A, rfl⟩ := act24_of h2
    refine ⟨A, fun j u hu => ?_⟩
    obtain ⟨hj, rfl⟩ := List.getElem?_eq_some_iff.1 hu
    have h3 := hat j (by omega)
    rw [Go.Deep.add_add] at h3
    rw [h3, hu]
  have hspot : spot = none := by
    obtain ⟨A, hA⟩ := each 0 (by omega)
    have := World.cell?_spot (hA 0 _ rfl)
    simpa [Addr.add] using this
  subst hspot
  have hz : ∀ i, ∃ A : AQ, i < m → ∀ j u, (aqC A)[j]? = some u → W.cell? ⟨b, off + i * 3 + j, none⟩ = some u := fun i => by
    by_cases hi : i < m
    · obtain ⟨A, hc⟩ := each i hi
      refine ⟨A, fun _ j u hu => ?_⟩
      have := hc j u hu
      rwa [Go.WideShapes.add_plain, ← Nat.add_assoc] at this
    · exact ⟨(0, 0, 0), fun h => absurd h hi⟩
  obtain ⟨F, hF⟩ := Classical.skolem.1 hz
  refine ⟨(List.range len).map F, ⟨some ⟨b, off, none⟩, m, by simp, by simpa using hl, fun i hi => ?_⟩⟩
  · have hi' : i < len := by simpa using hi
    have hi2 : i < m := by omega
    refine ⟨b, off, rfl, World.block_lt_of_cell? W _ ((hF i hi2) 0 _ rfl), fun j u hu => ?_⟩
    simp only [List.getElem_map, List.getElem_range] at hu
    exact (hF i hi2) j u hu
end Go.Proofs.Ytbodoodgdojgoaa
