/-
  ProviderPlays: for every list of calls and every tick the law returns true: each Put answers as the document's list does, after each call Get answers as it does, at last all names stand in order. Conditions: none.
-/
import Derived.Test.YtilmidddhkofaaaBFrame
import Derived.Test.YtilmidddhkofaaaPArgC
import Derived.Test.YtilmidddhkofaaaPo7
namespace Go.Proofs.Ytilmidddhkofaaa
open Go.ChangeShapes Go.WideShapes Go.ChangeAt Go.RowKit Go.Deep Crv
open Go.ChangeMaps (open_string shut_string)

set_option maxRecDepth 100000 in
/-- The cells of an act. -/
theorem act21_of {H : Type} {enc : TypeId × Value → H} {W : World} {n : Nat} {cs : List Value} {x : DataW H × List MemPlace} (h : DataW.trod enc Try.prog W 0 (fun _ => true) true n Tac cs = some x) : ∃ A : AC, cs = acC A ∧ In64 A.2.2.1 ∧ In64 A.2.2.2 := by
  obtain ⟨xs, k, -, -, hlen, hxl, hf⟩ := DataW.trod_struct Try.underlying28 h
  have c0 : Try.prog.cellsOf 3 = 1 := by kernel_rfl
  rw [show Try.prog.cellsOf Tac = 4 by kernel_rfl] at hlen
  match xs, hxl, cs, hlen with
  | [y0, y1, y2, y3], _, [v0, v1, v2, v3], _ =>
    have g0 : DataW.trod enc Try.prog W 0 (fun _ => true) true k 3 [v0] = some y0 := by simpa [c0] using hf 0 _ rfl
    have g1 : DataW.trod enc Try.prog W 0 (fun _ => true) true k 3 [v1] = some y1 := by simpa [c0] using hf 1 _ rfl
    have g2 : DataW.trod enc Try.prog W 0 (fun _ => true) true k 3 [v2] = some y2 := by simpa [c0] using hf 2 _ rfl
    have g3 : DataW.trod enc Try.prog W 0 (fun _ => true) true k 3 [v3] = some y3 := by simpa [c0] using hf 3 _ rfl
    obtain ⟨n0, e0, -, w0⟩ := DataW.trod_int (k := .i64) Try.underlying3 g0
    obtain ⟨n1, e1, -, w1⟩ := DataW.trod_int (k := .i64) Try.underlying3 g1
    obtain ⟨n2, e2, -, w2⟩ := DataW.trod_int (k := .i64) Try.underlying3 g2
    obtain ⟨n3, e3, -, w3⟩ := DataW.trod_int (k := .i64) Try.underlying3 g3
    simp only [List.cons.injEq, and_true] at e0 e1 e2 e3
    subst e0 e1 e2 e3
    exact ⟨(n0, n1, n2, n3), rfl, w2, w3⟩
set_option maxRecDepth 100000 in
/-- An argument of type []Act. -/
theorem acts21_of {H : Type} {enc : TypeId × Value → H} {W : World} {base : Nat} {v : Value} {d : DataW H} {ps : List MemPlace} (hv : Value.okWide Try.prog W .any base 22 v) (h : DataW.Trod enc Try.prog W 0 (fun _ => true) true 22 v d ps) :
    ∃ acts : List AC, ActsP W v acts := by
  have c4 : Try.prog.cellsOf Tac = 4 := by kernel_rfl
  obtain ⟨a0, len, cap, rfl⟩ := okWide_slice Try.underlying22 hv
  obtain ⟨fuel, hf⟩ := h
  rcases open_slice Try.underlying22 hf with ⟨hcs, _⟩ | ⟨a, len', cap', m, nn, D, Pl, hcs, _, hl, hm, hmm, _, hcell⟩
  · simp [Value.cells] at hcs
    obtain ⟨rfl, rfl, rfl⟩ := hcs
    exact ⟨[], ⟨none, 0, rfl, Nat.le_refl _, fun i hi => by simp at hi⟩, by simp⟩
  simp [Value.cells] at hcs
  obtain ⟨rfl, rfl, rfl⟩ := hcs
  simp only [if_true] at hmm
  subst hmm
  rw [c4] at hcell
  obtain ⟨b, off, spot⟩ := a
  by_cases hc0 : len = 0
  · subst hc0
    exact ⟨[], ⟨_, _, rfl, Nat.zero_le _, fun i hi => by simp at hi⟩, by simp⟩
  have each : ∀ i, i < m → ∃ A : AC, (In64 A.2.2.1 ∧ In64 A.2.2.2) ∧ ∀ j u, (acC A)[j]? = some u → W.cell? ((⟨b, off, spot⟩ : Addr).add (i * 4 + j)) = some u := fun i hi => by
    obtain ⟨cs', h1, h2⟩ := hcell i hi
    obtain ⟨_, hlen, hat⟩ := World.cells?_some h1
    obtain ⟨A, rfl, hA⟩ := act21_of h2
    refine ⟨A, hA, fun j u hu => ?_⟩
    obtain ⟨hj, rfl⟩ := List.getElem?_eq_some_iff.1 hu
    have h3 := hat j (by omega)
    rw [Go.Deep.add_add] at h3
    rw [h3, hu]
  have hspot : spot = none := by
    obtain ⟨A, _, hA⟩ := each 0 (by omega)
    have := World.cell?_spot (hA 0 _ rfl)
    simpa [Addr.add] using this
  subst hspot
  have hz : ∀ i, ∃ A : AC, i < m → (In64 A.2.2.1 ∧ In64 A.2.2.2) ∧ ∀ j u, (acC A)[j]? = some u → W.cell? ⟨b, off + i * 4 + j, none⟩ = some u := fun i => by
    by_cases hi : i < m
    · obtain ⟨A, hA, hc⟩ := each i hi
      refine ⟨A, fun _ => ⟨hA, fun j u hu => ?_⟩⟩
      have := hc j u hu
      rwa [Go.WideShapes.add_plain, ← Nat.add_assoc] at this
    · exact ⟨(0, 0, 0, 0), fun h => absurd h hi⟩
  obtain ⟨F, hF⟩ := Classical.skolem.1 hz
  refine ⟨(List.range len).map F, ⟨some ⟨b, off, none⟩, m, by simp, by simpa using hl, fun i hi => ?_⟩, fun A hA => ?_⟩
  · have hi' : i < len := by simpa using hi
    have hi2 : i < m := by omega
    refine ⟨b, off, rfl, World.block_lt_of_cell? W _ ((hF i hi2).2 0 _ rfl), fun j u hu => ?_⟩
    simp only [List.getElem_map, List.getElem_range] at hu
    exact (hF i hi2).2 j u hu
  · obtain ⟨i, hi, rfl⟩ := List.mem_map.1 hA
    exact (hF i (by have := List.mem_range.1 hi; omega)).1
set_option maxRecDepth 100000 in
theorem providerPlays_lifted (os : Os) (started : os.Started) (H : Type) (enc : TypeId × Value → H) :
    ReturnsInHanded {} Try.checked os 3 .any (Rows.providerPlaysSpec.pre6 enc Try.prog Try.f3 Rows.providerPlaysRow.domain false)
      (Rows.providerPlaysSpec.post enc Try.prog Try.f3 false true false false) := by
  refine returnsInHanded_of_change (C := Try.checked) ownB started (by kernel_rfl) Try.func3
    (ChangeSpec.witness6 (enc := enc) (C := Try.checked) false ⟨#[], #[.slice none 0 0, .int .i64 0], []⟩ 8 (by kernel_rfl) (by kernel_rfl) (by kernel_rfl) (by kernel_rfl)) ?_
  intro W base args ds gs before hval0 hW _ _
  have hval : ∀ (j : Nat) t v, Try.f3.params[j]? = some t → args[j]? = some v → Value.okWide Try.prog W .any base t v := hval0
  have hW' := hW
  obtain ⟨p, q, hA0, hV, rfl, hfz, hnd⟩ := hW
  have hA : DataW.TrodAll enc Try.prog W 0 (fun _ => true) true Try.f3.params.toList args.toList ds p := hA0
  have hlt := hA.lt
  rw [Try.params3] at hA hval
  obtain ⟨v0, v1, d0, d1, p0, p1, rfl, rfl, rfl, h0, h1⟩ := trodAll_two hA
  obtain ⟨rfl, rfl⟩ := trodVars_none hV
  obtain ⟨acts, hacts⟩ := acts21_of (hval 0 22 v0 rfl rfl) h0
  obtain ⟨now, rfl, rfl, rfl, wn⟩ := open_int Try.underlying3 (hval 1 3 v1 rfl rfl) h1
  clear hA0 hval0
  have hwalk := plays_loop v0 acts now W hacts
  refine hwalk.mono fun e W' ⟨he, bel⟩ => ?_
  subst he
  exact ⟨_, rfl, _, _, _, [], _, [], hW', trodAll_mk1 (shut_bool Try.underlying4 _), trodAll_mk2 (Below.trod laidOutP (by kernel_rfl) (of_decide_eq_true (by kernel_rfl)) h0 bel (fun x hx => hlt x (by simp [hx]))) (shut_int Try.underlying3 wn), rfl, bel.frame _, fun h => by cases h⟩

theorem providerPlays_holds : Rows.ProviderPlaysSaid :=
  OpenClaim.holds_of_wide 3 Try.f3 rfl rfl rfl rfl rfl rfl rfl ⟨rfl, rfl, rfl, rfl, rfl⟩ rfl rfl rfl rfl rfl (by kernel_rfl) Try.func3 (by kernel_rfl)
    (of_decide_eq_true (by kernel_rfl)) (by unfold Func.isWrapper; first | (rw [if_pos (by decide +kernel)]; kernel_rfl) | (rw [if_neg (by decide +kernel)]; exact ⟨rfl, rfl⟩))
    (fun os started H enc _ => providerPlays_lifted os started H enc)
#print axioms providerPlays_holds
end Go.Proofs.Ytilmidddhkofaaa

