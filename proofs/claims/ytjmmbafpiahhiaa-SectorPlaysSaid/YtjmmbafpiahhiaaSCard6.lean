/-
  SectorPlays: for every size and every list of calls the law returns true: each call answers as the document's disk does, the same sectors are loose, the fuse is the same; at last all bytes, and those behind a crash. Conditions: none.
-/
import Derived.Test.YtjmmbafpiahhiaaBFrame
import Derived.Test.YtjmmbafpiahhiaaSLaw11
import Derived.Deep.SlicePairs
import Derived.Deep.Strs
import Derived.Carry
namespace Go.Proofs.Ytjmmbafpiahhiaa
open Go.ChangeShapes Go.WideShapes Go.ChangeAt Go.RowKit Go.Deep Crv
open Go.ChangeMaps (open_string shut_string)

theorem laidOutB' : laidOutB Try.prog = true := by kernel_rfl

set_option maxRecDepth 100000 in
/-- A cell of type []string. -/
theorem txs_cell {H : Type} {enc : TypeId × Value → H} {W : World} {n : Nat} {v : Value} {x : DataW H × List MemPlace} (h : DataW.trod enc Try.prog W 0 (fun _ => true) true n 26 [v] = some x) :
    ∃ a tn tc ls, v = .slice a tn tc ∧ Txs W (.slice a tn tc) ls ∧ ls.length ≤ 9223372036854775807 := by
  have c9 : Try.prog.cellsOf 9 = 1 := by kernel_rfl
  rcases open_strs Try.underlying26 Try.underlying9 c9 h with ⟨hcs, hx⟩ | ⟨a, len, cap, m, Sx, hcs, _, hl, hm, hmm, hx, hcell⟩
  · simp only [List.cons.injEq, and_true] at hcs
    subst hcs
    exact ⟨none, 0, 0, [], rfl, ⟨none, 0, rfl, fun i hi => by simp at hi⟩, by simp⟩
  simp only [List.cons.injEq, and_true] at hcs
  subst hcs
  simp only [if_true] at hmm
  subst hmm
  obtain ⟨b, off, spot⟩ := a
  have hlm : len ≤ 9223372036854775807 := by simp only [maxLen] at hm; omega
  by_cases hc0 : m = 0
  · subst hc0
    have hlen0 : len = 0 := by omega
    subst hlen0
    exact ⟨_, _, _, [], rfl, ⟨_, _, rfl, fun i hi => by simp at hi⟩, by simp⟩
  have hspot : spot = none := by simpa [Addr.add] using World.cell?_spot (hcell 0 (by omega)).1
  subst hspot
  have hcell' : ∀ j, j < m → W.cell? ⟨b, off + j, none⟩ = some (.string (Sx j)) := fun j hj => by rw [← Go.WideShapes.add_plain]; exact (hcell j hj).1
  refine ⟨_, _, _, (List.range len).map fun i => (Sx i).data.toList, rfl, ⟨some ⟨b, off, none⟩, m, by simp, fun i hi => ⟨b, off, rfl, ?_⟩⟩, by simpa using hlm⟩
  have hi' : i < len := by simpa using hi
  rw [hcell' i (by omega), List.getD_eq_getElem?_getD, List.getElem?_map, List.getElem?_range hi']
  simp only [Option.map_some, Option.getD_some]
set_option maxRecDepth 100000 in
/-- A cell of type []int. -/
theorem zs_cell {H : Type} {enc : TypeId × Value → H} {W : World} {n : Nat} {v : Value} {x : DataW H × List MemPlace} (h : DataW.trod enc Try.prog W 0 (fun _ => true) true n 33 [v] = some x) :
    ∃ a tn tc ks, v = .slice a tn tc ∧ Zs W (.slice a tn tc) ks ∧ ks.length ≤ 9223372036854775807 := by
  have c3 : Try.prog.cellsOf 3 = 1 := by kernel_rfl
  rcases open_slice Try.underlying33 h with ⟨hcs, _⟩ | ⟨a, len, cap, m, nn, D, Pl, hcs, _, hl, hm, hmm, _, hcell⟩
  · simp only [List.cons.injEq, and_true] at hcs
    subst hcs
    exact ⟨none, 0, 0, [], rfl, ⟨none, 0, rfl, fun i hi => by simp at hi⟩, by simp⟩
  simp only [List.cons.injEq, and_true] at hcs
  subst hcs
  simp only [if_true] at hmm
  subst hmm
  rw [c3] at hcell
  have each : ∀ i, i < m → ∃ n : Int, W.cell? (a.add i) = some (.int .i64 n) := fun i hi => by
    obtain ⟨cs', h1, h2⟩ := hcell i hi
    obtain ⟨_, hlen, hat⟩ := World.cells?_some h1
    obtain ⟨n0, e0, _, w0⟩ := DataW.trod_int (k := .i64) Try.underlying3 h2
    subst e0
    have h3 := hat 0 (by omega)
    refine ⟨n0, ?_⟩
    rw [Nat.mul_one] at h3
    rw [Go.Deep.add_add] at h3
    simpa using h3
  obtain ⟨b, off, spot⟩ := a
  have hlm : len ≤ 9223372036854775807 := by simp only [maxLen] at hm; omega
  by_cases hc0 : len = 0
  · subst hc0
    exact ⟨_, _, _, [], rfl, ⟨_, _, rfl, fun i hi => by simp at hi⟩, by simp⟩
  have hspot : spot = none := by
    obtain ⟨n, hn⟩ := each 0 (by omega)
    simpa [Addr.add] using World.cell?_spot hn
  subst hspot
  have hz : ∀ i, ∃ z : Int, i < m → W.cell? ⟨b, off + i, none⟩ = some (.int .i64 z) := fun i => by
    by_cases hi : i < m
    · obtain ⟨n, hn⟩ := each i hi
      rw [Go.WideShapes.add_plain] at hn
      exact ⟨n, fun _ => hn⟩
    · exact ⟨0, fun h => absurd h hi⟩
  obtain ⟨Z, hZ⟩ := Classical.skolem.1 hz
  refine ⟨_, _, _, (List.range len).map Z, rfl, ⟨some ⟨b, off, none⟩, m, by simp, fun i hi => ⟨b, off, rfl, ?_⟩⟩, by simpa using hlm⟩
  have hi' : i < len := by simpa using hi
  rw [hZ i (by omega), List.getD_eq_getElem?_getD, List.getElem?_map, List.getElem?_range hi']
  rfl
set_option maxRecDepth 100000 in
/-- The cells of a call. -/
theorem act_of {H : Type} {enc : TypeId × Value → H} {W : World} {n : Nat} {cs : List Value} {x : DataW H × List MemPlace} (h : DataW.trod enc Try.prog W 0 (fun _ => true) true n TAc cs = some x) : ∃ A : ActC, cs = A.cells ∧ ActOk W A := by
  obtain ⟨xs, k, -, -, hlen, hxl, hf⟩ := DataW.trod_struct Try.underlying35 h
  have c0 : Try.prog.cellsOf 3 = 1 := by kernel_rfl
  have c1 : Try.prog.cellsOf 26 = 1 := by kernel_rfl
  have c2 : Try.prog.cellsOf 33 = 1 := by kernel_rfl
  have c3 : Try.prog.cellsOf 5 = 1 := by kernel_rfl
  rw [show Try.prog.cellsOf TAc = 6 by kernel_rfl] at hlen
  match xs, hxl, cs, hlen with
  | [y0, y1, y2, y3, y4, y5], _, [v0, v1, v2, v3, v4, v5], _ =>
    have g0 : DataW.trod enc Try.prog W 0 (fun _ => true) true k 3 [v0] = some y0 := by simpa [c0] using hf 0 _ rfl
    have g1 : DataW.trod enc Try.prog W 0 (fun _ => true) true k 3 [v1] = some y1 := by simpa [c0] using hf 1 _ rfl
    have g2 : DataW.trod enc Try.prog W 0 (fun _ => true) true k 3 [v2] = some y2 := by simpa [c0] using hf 2 _ rfl
    have g3 : DataW.trod enc Try.prog W 0 (fun _ => true) true k 26 [v3] = some y3 := by simpa [c1] using hf 3 _ rfl
    have g4 : DataW.trod enc Try.prog W 0 (fun _ => true) true k 33 [v4] = some y4 := by simpa [c2] using hf 4 _ rfl
    have g5 : DataW.trod enc Try.prog W 0 (fun _ => true) true k 5 [v5] = some y5 := by simpa [c3] using hf 5 _ rfl
    obtain ⟨n0, e0, -, w0⟩ := DataW.trod_int (k := .i64) Try.underlying3 g0
    obtain ⟨n1, e1, -, w1⟩ := DataW.trod_int (k := .i64) Try.underlying3 g1
    obtain ⟨n2, e2, -, w2⟩ := DataW.trod_int (k := .i64) Try.underlying3 g2
    obtain ⟨n5, e5, -, w5⟩ := DataW.trod_int (k := .u8) Try.underlying5 g5
    obtain ⟨ta, tn, tc, ls, e3, ht, hl⟩ := txs_cell g3
    obtain ⟨ca, cn, cc, ks, e4, hz, hk⟩ := zs_cell g4
    simp only [List.cons.injEq, and_true] at e0 e1 e2 e5
    subst e0 e1 e2 e3 e4 e5
    have hb := bounds_u8 w5
    refine ⟨⟨n0, n1, n2, ta, tn, tc, ca, cn, cc, UInt8.ofNat n5.toNat⟩, ?_, (bounds_i64 w1).2, (bounds_i64 w2).2, ⟨ls, ht, hl⟩, ⟨ks, hz, hk⟩⟩
    have h5 : ((UInt8.ofNat n5.toNat).toNat : Int) = n5 := by
      rw [UInt8.toNat_ofNat']
      omega
    simp only [ActC.cells, acC, h5]
set_option maxRecDepth 100000 in
/-- An argument of type []Act. -/
theorem acts_of {H : Type} {enc : TypeId × Value → H} {W : World} {base : Nat} {v : Value} {d : DataW H} {ps : List MemPlace} (hv : Value.okWide Try.prog W .any base 22 v) (h : DataW.Trod enc Try.prog W 0 (fun _ => true) true 22 v d ps) :
    ∃ m F, Acts W v m F ∧ m ≤ 9223372036854775807 := by
  have c6 : Try.prog.cellsOf TAc = 6 := by kernel_rfl
  have none_ : ActC := ⟨0, 0, 0, none, 0, 0, none, 0, 0, 0⟩
  obtain ⟨a0, len, cap, rfl⟩ := okWide_slice Try.underlying22 hv
  obtain ⟨fuel, hf⟩ := h
  rcases open_slice Try.underlying22 hf with ⟨hcs, _⟩ | ⟨a, len', cap', m, nn, D, Pl, hcs, _, hl, hm, hmm, _, hcell⟩
  · simp [Value.cells] at hcs
    obtain ⟨rfl, rfl, rfl⟩ := hcs
    exact ⟨0, fun _ => none_, ⟨none, 0, rfl, fun i hi => by omega⟩, by simp⟩
  simp [Value.cells] at hcs
  obtain ⟨rfl, rfl, rfl⟩ := hcs
  simp only [if_true] at hmm
  subst hmm
  rw [c6] at hcell
  obtain ⟨b, off, spot⟩ := a
  have hlm : len ≤ 9223372036854775807 := by simp only [maxLen] at hm; omega
  by_cases hc0 : len = 0
  · subst hc0
    exact ⟨0, fun _ => none_, ⟨_, _, rfl, fun i hi => by omega⟩, by simp⟩
  have each : ∀ i, i < m → ∃ A : ActC, ActOk W A ∧ ∀ j u, A.cells[j]? = some u → W.cell? ((⟨b, off, spot⟩ : Addr).add (i * 6 + j)) = some u := fun i hi => by
    obtain ⟨cs', h1, h2⟩ := hcell i hi
    obtain ⟨_, hlen, hat⟩ := World.cells?_some h1
    obtain ⟨A, rfl, hA⟩ := act_of h2
    refine ⟨A, hA, fun j u hu => ?_⟩
    obtain ⟨hj, rfl⟩ := List.getElem?_eq_some_iff.1 hu
    have h3 := hat j (by omega)
    rw [Go.Deep.add_add] at h3
    rw [h3, hu]
  have hspot : spot = none := by
    obtain ⟨A, _, hA⟩ := each 0 (by omega)
    have := World.cell?_spot (hA 0 _ rfl)
    simpa [Addr.add] using this
  subst hspot
  have hz : ∀ i, ∃ A : ActC, i < m → ActOk W A ∧ ∀ j u, A.cells[j]? = some u → W.cell? ⟨b, off + i * 6 + j, none⟩ = some u := fun i => by
    by_cases hi : i < m
    · obtain ⟨A, hA, hc⟩ := each i hi
      refine ⟨A, fun _ => ⟨hA, fun j u hu => ?_⟩⟩
      have := hc j u hu
      rwa [Go.WideShapes.add_plain, ← Nat.add_assoc] at this
    · exact ⟨none_, fun h => absurd h hi⟩
  obtain ⟨F, hF⟩ := Classical.skolem.1 hz
  exact ⟨len, F, ⟨some ⟨b, off, none⟩, m, rfl, fun i hi => ⟨b, off, rfl, (hF i (by omega)).2, (hF i (by omega)).1⟩⟩, hlm⟩

set_option maxRecDepth 100000 in
theorem sectorPlays_lifted (os : Os) (started : os.Started) (H : Type) (enc : TypeId × Value → H) :
    ReturnsInHanded {} Try.checked os 3 .any (Rows.sectorPlaysSpec.pre6 enc Try.prog Try.f3 Rows.sectorPlaysRow.domain false)
      (Rows.sectorPlaysSpec.post enc Try.prog Try.f3 false true false false) := by
  refine returnsInHanded_of_change (C := Try.checked) ownB started (by kernel_rfl) Try.func3
    (ChangeSpec.witness6 (enc := enc) (C := Try.checked) false ⟨#[], #[.int .i64 0, .slice none 0 0], []⟩ 8 (by kernel_rfl) (by kernel_rfl) (by kernel_rfl) (by kernel_rfl)) ?_
  intro W base args ds gs before hval0 hW _ _
  have hval : ∀ (j : Nat) t v, Try.f3.params[j]? = some t → args[j]? = some v → Value.okWide Try.prog W .any base t v := hval0
  have hW' := hW
  obtain ⟨p, q, hA0, hV, rfl, hfz, hnd⟩ := hW
  have hA : DataW.TrodAll enc Try.prog W 0 (fun _ => true) true Try.f3.params.toList args.toList ds p := hA0
  have hlt := hA.lt
  rw [Try.params3] at hA hval
  obtain ⟨v0, v1, d0, d1, p0, p1, rfl, rfl, rfl, h0, h1⟩ := trodAll_two hA
  obtain ⟨rfl, rfl⟩ := trodVars_none hV
  obtain ⟨n, rfl, rfl, rfl, wn⟩ := open_int Try.underlying3 (hval 0 3 v0 rfl rfl) h0
  obtain ⟨m, F, hF, hm⟩ := acts_of (hval 1 22 v1 rfl rfl) h1
  clear hA0 hval0
  have hwalk := sectorPlays_walk n v1 m F W hF hm
  refine hwalk.mono fun e W' ⟨he, bel⟩ => ?_
  subst he
  exact ⟨_, rfl, _, _, _, [], _, [], hW', trodAll_mk1 (shut_bool Try.underlying4 _), trodAll_mk2 (shut_int Try.underlying3 wn) (Below.trod laidOutB' (by kernel_rfl) (of_decide_eq_true (by kernel_rfl)) h1 bel (fun x hx => hlt x (List.mem_append.2 (.inr hx)))), rfl, bel.frame _, fun h => by cases h⟩

theorem sectorPlays_holds : Rows.SectorPlaysSaid :=
  OpenClaim.holds_of_wide 3 Try.f3 rfl rfl rfl rfl rfl rfl rfl ⟨rfl, rfl, rfl, rfl, rfl⟩ rfl rfl rfl rfl rfl (by kernel_rfl) Try.func3 (by kernel_rfl)
    (of_decide_eq_true (by kernel_rfl)) (by unfold Func.isWrapper; first | (rw [if_pos (by decide +kernel)]; kernel_rfl) | (rw [if_neg (by decide +kernel)]; exact ⟨rfl, rfl⟩))
    (fun os started H enc _ => sectorPlays_lifted os started H enc)
#print axioms sectorPlays_holds
end Go.Proofs.Ytjmmbafpiahhiaa
