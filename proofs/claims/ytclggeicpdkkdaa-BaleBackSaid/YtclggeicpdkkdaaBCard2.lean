/-
  BalePuts: for every number, list of numbers, list of texts and list of names the law returns true: their bytes are the document's. Conditions: none.
-/
import Derived.Test.YtclggeicpdkkdaaBArgs
import Derived.Test.YtclggeicpdkkdaaBLaw2
namespace Go.Proofs.Ytclggeicpdkkdaa
open Go.ChangeShapes Go.WideShapes Go.ChangeAt Go.RowKit Go.Deep Crv
open Go.ChangeMaps (open_string shut_string)

/-- An argument of type []string. -/
theorem txs_of {H : Type} {enc : TypeId × Value → H} {W : World} {base : Nat} {v : Value} {d : DataW H} {ps : List MemPlace} (hv : Value.okWide Try.prog W .any base 24 v) (h : DataW.Trod enc Try.prog W 0 (fun _ => true) true 24 v d ps) :
    ∃ ls : List (List UInt8), Txs W v ls ∧ ls.length ≤ 9223372036854775807 := by
  have c9 : Try.prog.cellsOf 9 = 1 := by kernel_rfl
  obtain ⟨a0, len, cap, rfl⟩ := okWide_slice Try.underlying24 hv
  obtain ⟨fuel, hf⟩ := h
  rcases open_strs Try.underlying24 Try.underlying9 c9 hf with ⟨hcs, hx⟩ | ⟨a, len', cap', m, Sx, hcs, _, hl, hm, hmm, hx, hcell⟩
  · simp [Value.cells] at hcs
    obtain ⟨rfl, rfl, rfl⟩ := hcs
    exact ⟨[], ⟨none, 0, rfl, fun i hi => by simp at hi⟩, by simp⟩
  simp [Value.cells] at hcs
  obtain ⟨rfl, rfl, rfl⟩ := hcs
  simp only [if_true] at hmm
  subst hmm
  obtain ⟨b, off, spot⟩ := a
  have hlm : len ≤ 9223372036854775807 := by simp only [maxLen] at hm; omega
  by_cases hc0 : m = 0
  · subst hc0
    have hlen0 : len = 0 := by omega
    subst hlen0
    exact ⟨[], ⟨_, _, rfl, fun i hi => by simp at hi⟩, by simp⟩
  have hspot : spot = none := by simpa [Addr.add] using World.cell?_spot (hcell 0 (by omega)).1
  subst hspot
  have hcell' : ∀ j, j < m → W.cell? ⟨b, off + j, none⟩ = some (.string (Sx j)) := fun j hj => by rw [← Go.WideShapes.add_plain]; exact (hcell j hj).1
  refine ⟨(List.range len).map fun i => (Sx i).data.toList, ⟨some ⟨b, off, none⟩, m, by simp, fun i hi => ⟨b, off, rfl, ?_⟩⟩, by simpa using hlm⟩
  have hi' : i < len := by simpa using hi
  rw [hcell' i (by omega), List.getD_eq_getElem?_getD, List.getElem?_map, List.getElem?_range hi']
  simp only [Option.map_some, Option.getD_some]
/-- An argument of type []int. -/
theorem ints_of {H : Type} {enc : TypeId × Value → H} {W : World} {base : Nat} {v : Value} {d : DataW H} {ps : List MemPlace} (hv : Value.okWide Try.prog W .any base 23 v) (h : DataW.Trod enc Try.prog W 0 (fun _ => true) true 23 v d ps) :
    ∃ ks : List Int, Ints W v ks ∧ ∀ k ∈ ks, -9223372036854775808 ≤ k ∧ k < 9223372036854775808 := by
  have c3 : Try.prog.cellsOf 3 = 1 := by kernel_rfl
  obtain ⟨a0, len, cap, rfl⟩ := okWide_slice Try.underlying23 hv
  obtain ⟨fuel, hf⟩ := h
  rcases open_slice Try.underlying23 hf with ⟨hcs, _⟩ | ⟨a, len', cap', m, nn, D, Pl, hcs, _, hl, hm, hmm, _, hcell⟩
  · simp [Value.cells] at hcs
    obtain ⟨rfl, rfl, rfl⟩ := hcs
    exact ⟨[], ⟨none, 0, rfl, fun i hi => by simp at hi⟩, by simp⟩
  simp [Value.cells] at hcs
  obtain ⟨rfl, rfl, rfl⟩ := hcs
  simp only [if_true] at hmm
  subst hmm
  rw [c3] at hcell
  have each : ∀ i, i < m → ∃ n : Int, W.cell? (a.add i) = some (.int .i64 n) ∧ -9223372036854775808 ≤ n ∧ n < 9223372036854775808 := fun i hi => by
    obtain ⟨cs', h1, h2⟩ := hcell i hi
    obtain ⟨_, hlen, hat⟩ := World.cells?_some h1
    obtain ⟨n0, e0, _, w0⟩ := DataW.trod_int (k := .i64) Try.underlying3 h2
    subst e0
    have h3 := hat 0 (by omega)
    obtain ⟨l1, l2⟩ := bounds_i64 w0
    refine ⟨n0, ?_, l1, by omega⟩
    rw [Nat.mul_one] at h3
    rw [Go.Deep.add_add] at h3
    simpa using h3
  obtain ⟨b, off, spot⟩ := a
  by_cases hc0 : len = 0
  · subst hc0
    exact ⟨[], ⟨_, _, rfl, fun i hi => by simp at hi⟩, by simp⟩
  have hspot : spot = none := by
    obtain ⟨n, hn, _⟩ := each 0 (by omega)
    simpa [Addr.add] using World.cell?_spot hn
  subst hspot
  have hz : ∀ i, ∃ z : Int, i < m → W.cell? ⟨b, off + i, none⟩ = some (.int .i64 z) ∧ -9223372036854775808 ≤ z ∧ z < 9223372036854775808 := fun i => by
    by_cases hi : i < m
    · obtain ⟨n, hn, hr⟩ := each i hi
      rw [Go.WideShapes.add_plain] at hn
      exact ⟨n, fun _ => ⟨hn, hr⟩⟩
    · exact ⟨0, fun h => absurd h hi⟩
  obtain ⟨Z, hZ⟩ := Classical.skolem.1 hz
  refine ⟨(List.range len).map Z, ⟨some ⟨b, off, none⟩, m, by simp, fun i hi => ⟨b, off, rfl, ?_⟩⟩, ?_⟩
  · have hi' : i < len := by simpa using hi
    rw [(hZ i (by omega)).1, List.getElem?_map, List.getElem?_map, List.getElem?_range hi']
    rfl
  · intro k hk
    obtain ⟨i, hi, rfl⟩ := List.mem_map.1 hk
    exact (hZ i (by have := List.mem_range.1 hi; omega)).2

set_option maxRecDepth 100000 in
theorem balePuts_lifted (os : Os) (started : os.Started) (H : Type) (enc : TypeId × Value → H) :
    ReturnsInHanded {} Try.checked os 3 .any (Rows.balePutsSpec.pre6 enc Try.prog Try.f3 Rows.balePutsRow.domain false)
      (Rows.balePutsSpec.post enc Try.prog Try.f3 false true false false) := by
  refine returnsInHanded_of_change (C := Try.checked) ownB started (by kernel_rfl) Try.func3
    (ChangeSpec.witness6 (enc := enc) (C := Try.checked) false ⟨#[], #[.int .u64 0, .slice none 0 0, .slice none 0 0, .slice none 0 0], []⟩ 8 (by kernel_rfl) (by kernel_rfl) (by kernel_rfl) (by kernel_rfl)) ?_
  intro W base args ds gs before hval0 hW _ _
  have hval : ∀ (j : Nat) t v, Try.f3.params[j]? = some t → args[j]? = some v → Value.okWide Try.prog W .any base t v := hval0
  have hW' := hW
  obtain ⟨p, q, hA0, hV, rfl, hfz, hnd⟩ := hW
  have hA : DataW.TrodAll enc Try.prog W 0 (fun _ => true) true Try.f3.params.toList args.toList ds p := hA0
  have hlt := hA.lt
  rw [Try.params3] at hA hval
  obtain ⟨v0, v1, v2, v3, d0, d1, d2, d3, p0, p1, p2, p3, rfl, rfl, rfl, h0, h1, h2, h3⟩ := trodAll_four hA
  obtain ⟨rfl, rfl⟩ := trodVars_none hV
  obtain ⟨a, rfl, rfl, rfl, wa⟩ := open_int Try.underlying22 (hval 0 22 v0 rfl rfl) h0
  obtain ⟨ks, hks, hkr⟩ := ints_of (hval 1 23 v1 rfl rfl) h1
  obtain ⟨ts, hts, _⟩ := txs_of (hval 2 24 v2 rfl rfl) h2
  obtain ⟨is, his, _⟩ := txs_of (hval 3 24 v3 rfl rfl) h3
  clear hA0 hval0
  obtain ⟨l1, l2⟩ := bounds_u64 wa
  obtain ⟨n, rfl⟩ := Int.eq_ofNat_of_zero_le l1
  have hwalk := balePuts_walk n (by omega) v1 v2 v3 ks ts is W hks hts his hkr
  refine hwalk.mono fun e W' ⟨he, bel⟩ => ?_
  subst he
  exact ⟨_, rfl, _, _, _, [], _, [], hW', trodAll_mk1 (shut_bool Try.underlying4 _), trodAll_mk4 (shut_int Try.underlying22 wa)
    (Below.trod laidOutB' (by kernel_rfl) (of_decide_eq_true (by kernel_rfl)) h1 bel (fun x hx => hlt x (by simp [hx])))
    (Below.trod laidOutB' (by kernel_rfl) (of_decide_eq_true (by kernel_rfl)) h2 bel (fun x hx => hlt x (by simp [hx])))
    (Below.trod laidOutB' (by kernel_rfl) (of_decide_eq_true (by kernel_rfl)) h3 bel (fun x hx => hlt x (by simp [hx]))), rfl, bel.frame _, fun h => by cases h⟩

theorem balePuts_holds : Rows.BalePutsSaid :=
  OpenClaim.holds_of_wide 3 Try.f3 rfl rfl rfl rfl rfl rfl rfl ⟨rfl, rfl, rfl, rfl, rfl⟩ rfl rfl rfl rfl rfl (by kernel_rfl) Try.func3 (by kernel_rfl)
    (of_decide_eq_true (by kernel_rfl)) (by unfold Func.isWrapper; first | (rw [if_pos (by decide +kernel)]; kernel_rfl) | (rw [if_neg (by decide +kernel)]; exact ⟨rfl, rfl⟩))
    (fun os started H enc _ => balePuts_lifted os started H enc)
#print axioms balePuts_holds
end Go.Proofs.Ytclggeicpdkkdaa
