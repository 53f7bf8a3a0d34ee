/-
  Arguments of a law that are slices of texts or of bools: what they read as, and that they read so in each later world.
-/
import Derived.Test.YtkapngleimnegaaDoorFrame
import Derived.Test.YtkapngleimnegaaDoorLawMore
import Derived.Deep.Strs
import Derived.Deep.Grids
namespace Go.Proofs.YtkapngleimnegaaDoor
open Go.ChangeShapes Go.WideShapes Go.ChangeAt Go.RowKit Go.Deep Crv

theorem trod_empty {H : Type} {enc : TypeId × Value → H} {P : Program} {t e : TypeId} (ht : P.underlying t = some (.slice e)) (W' : World) (a : Addr) (sp : Nat → Bool) : DataW.Trod enc P W' 0 sp true t (.slice (some a) 0 0) (.slice [] []) [] := by
  show ∃ n, DataW.trod enc P W' 0 sp true n t [.slice (some a) 0 0] = some (.slice [] [], [])
  cases hsp : sp a.block
  · simpa [MemPlace.row] using shut_slice_cells (enc := enc) (w := W') (base := 0) (spare := sp) (held := true) (a := a) (len := 0) (cap := 0) ht (Nat.zero_le _) (Nat.le_refl _) (Nat.zero_le _) hsp (fun _ => .nil) (fun _ => []) (fun i hi => absurd hi (Nat.not_lt_zero _))
  · simpa [MemPlace.row] using shut_slice_whole_cells (enc := enc) (w := W') (base := 0) (spare := sp) (held := true) (a := a) (len := 0) (cap := 0) ht (Nat.zero_le _) (Nat.le_refl _) (Nat.zero_le _) hsp (fun _ => .nil) (fun _ => []) (fun i hi => absurd hi (Nat.not_lt_zero _))

/-- An argument of type []string: what it reads as; and it reads so in each later world. -/
theorem strs_of {H : Type} {enc : TypeId × Value → H} {W : World} {base : Nat} {v : Value} {d : DataW H} {ps : List MemPlace} (hv : Value.okWide Tryd.prog W .any base 30 v) (h : DataW.Trod enc Tryd.prog W 0 (fun _ => true) true 30 v d ps) :
    ∃ ls : List (List UInt8), StrSlice W v ls ∧ ls.length ≤ 9223372036854775807 ∧ ∀ W', Below W.heap.size W W' → DataW.Trod enc Tryd.prog W' 0 (fun b => decide (b < W.heap.size)) true 30 v d ps := by
  have c9 : Tryd.prog.cellsOf 9 = 1 := by kernel_rfl
  obtain ⟨a0, len, cap, rfl⟩ := okWide_slice Tryd.underlying30 hv
  obtain ⟨fuel, hf⟩ := h
  rcases open_strs Tryd.underlying30 Tryd.underlying9 c9 hf with ⟨hcs, hx⟩ | ⟨a, len', cap', m, Sx, hcs, _, hl, hm, hmm, hx, hcell⟩
  · simp [Value.cells] at hcs
    obtain ⟨rfl, rfl, rfl⟩ := hcs
    simp only [Prod.mk.injEq] at hx
    obtain ⟨rfl, rfl⟩ := hx
    exact ⟨[], ⟨none, 0, rfl, fun i hi => by simp at hi⟩, by simp, fun W' _ => shut_slice_nil Tryd.underlying30⟩
  simp [Value.cells] at hcs
  obtain ⟨rfl, rfl, rfl⟩ := hcs
  simp only [Prod.mk.injEq] at hx
  obtain ⟨rfl, rfl⟩ := hx
  simp only [if_true] at hmm
  subst hmm
  obtain ⟨b, off, spot⟩ := a
  have hlm : len ≤ 9223372036854775807 := by simp only [maxLen] at hm; omega
  by_cases hc0 : m = 0
  · subst hc0
    have hlen0 : len = 0 := by omega
    subst hlen0
    exact ⟨[], ⟨_, _, rfl, fun i hi => by simp at hi⟩, by simp, fun W' _ => trod_empty Tryd.underlying30 W' _ _⟩
  have hspot : spot = none := by simpa [Addr.add] using World.cell?_spot (hcell 0 (by omega)).1
  subst hspot
  have hcell' : ∀ j, j < m → W.cell? ⟨b, off + j, none⟩ = some (.string (Sx j)) := fun j hj => by rw [← Go.WideShapes.add_plain]; exact (hcell j hj).1
  have hbl : b < W.heap.size := World.block_lt_of_cell? W _ (hcell' 0 (by omega))
  refine ⟨(List.range len).map fun i => (Sx i).data.toList, ⟨some ⟨b, off, none⟩, m, by simp, fun i hi => ⟨b, off, rfl, ?_⟩⟩, by simpa using hlm, fun W' hb => ?_⟩
  · have hi' : i < len := by simpa using hi
    rw [hcell' i (by omega), List.getD_eq_getElem?_getD, List.getElem?_map, List.getElem?_range hi']
    simp only [Option.map_some, Option.getD_some, ← str_eq]
  · exact shut_strs_whole (enc := enc) (w := W') (base := 0) (spare := fun b => decide (b < W.heap.size)) (held := true) Tryd.underlying30 Tryd.underlying9 c9 (b := b) (off := off) (len := len) (cap := m) (Nat.zero_le _) hl hm (by simpa using hbl) Sx
      (fun i hi => (World.cell?_of_block (hb.block b hbl)).trans (hcell' i hi)) (fun i hi => (hcell i hi).2)
theorem shut_bools_whole {H : Type} {enc : TypeId × Value → H} {P : Program} {w : World} {base : Nat} {spare : Nat → Bool} {held : Bool} {t e : TypeId} (ht : P.underlying t = some (.slice e)) (he : P.underlying e = some .bool) (hc : P.cellsOf e = 1) {b off len cap : Nat} (hb : base ≤ b) (hl : len ≤ cap) (hm : cap ≤ maxLen) (hsp : spare b = true)
    (B : Nat → Bool) (hcell : ∀ i, i < cap → w.cell? ⟨b, off + i, none⟩ = some (.bool (B i))) :
    DataW.Trod enc P w base spare held t (.slice (some ⟨b, off, none⟩) len cap) (boolRow (some ⟨b, off, none⟩) len cap B) (MemPlace.row ⟨b, off, none⟩ cap) := by
  have := shut_slice_whole_cells (enc := enc) (w := w) (held := held) (a := ⟨b, off, none⟩) ht hb hl hm hsp (fun i => .lit (.bool (B i))) (fun _ => []) (fun i hi => by
    refine ⟨[.bool (B i)], 1, ?_, by simp [DataW.trod, he]⟩
    rw [hc, Nat.mul_one, Go.WideShapes.add_plain]
    exact cells?_one hb (hcell i hi))
  rw [hc, Nat.mul_one, flatMap_nils, List.append_nil] at this
  exact this
/-- .. and of type []bool. -/
theorem bools_of {H : Type} {enc : TypeId × Value → H} {W : World} {base : Nat} {v : Value} {d : DataW H} {ps : List MemPlace} (hv : Value.okWide Tryd.prog W .any base 31 v) (h : DataW.Trod enc Tryd.prog W 0 (fun _ => true) true 31 v d ps) :
    ∃ bs : List Bool, Reads W v (bs.map Value.bool) ∧ ∀ W', Below W.heap.size W W' → DataW.Trod enc Tryd.prog W' 0 (fun b => decide (b < W.heap.size)) true 31 v d ps := by
  have c4 : Tryd.prog.cellsOf 4 = 1 := by kernel_rfl
  obtain ⟨a0, len, cap, rfl⟩ := okWide_slice Tryd.underlying31 hv
  obtain ⟨fuel, hf⟩ := h
  rcases open_bools Tryd.underlying31 Tryd.underlying4 c4 hf with ⟨hcs, hx⟩ | ⟨a, len', cap', B, hcs, _, hl, hm, hx, hcell⟩
  · simp [Value.cells] at hcs
    obtain ⟨rfl, rfl, rfl⟩ := hcs
    simp only [Prod.mk.injEq] at hx
    obtain ⟨rfl, rfl⟩ := hx
    exact ⟨[], ⟨none, 0, rfl, fun i hi => by simp at hi⟩, fun W' _ => shut_slice_nil Tryd.underlying31⟩
  simp [Value.cells] at hcs
  obtain ⟨rfl, rfl, rfl⟩ := hcs
  simp only [Prod.mk.injEq] at hx
  obtain ⟨rfl, rfl⟩ := hx
  obtain ⟨b, off, spot⟩ := a
  by_cases hc0 : cap = 0
  · subst hc0
    have hlen0 : len = 0 := by omega
    subst hlen0
    exact ⟨[], ⟨_, _, rfl, fun i hi => by simp at hi⟩, fun W' _ => trod_empty Tryd.underlying31 W' _ _⟩
  have hspot : spot = none := by simpa [Addr.add] using World.cell?_spot (hcell 0 (by omega))
  subst hspot
  have hcell' : ∀ j, j < cap → W.cell? ⟨b, off + j, none⟩ = some (.bool (B j)) := fun j hj => by rw [← Go.WideShapes.add_plain]; exact hcell j hj
  have hbl : b < W.heap.size := World.block_lt_of_cell? W _ (hcell' 0 (by omega))
  refine ⟨(List.range len).map B, ⟨some ⟨b, off, none⟩, cap, by simp, fun i hi => ⟨b, off, rfl, ?_⟩⟩, fun W' hb => ?_⟩
  · have hi' : i < len := by simpa using hi
    rw [hcell' i (by omega), List.getElem?_map, List.getElem?_map, List.getElem?_range hi']
    rfl
  · exact shut_bools_whole (enc := enc) (w := W') (base := 0) (spare := fun b => decide (b < W.heap.size)) (held := true) Tryd.underlying31 Tryd.underlying4 c4 (b := b) (off := off) (len := len) (cap := cap) (Nat.zero_le _) hl hm (by simpa using hbl) B
      (fun i hi => (World.cell?_of_block (hb.block b hbl)).trans (hcell' i hi))

end Go.Proofs.YtkapngleimnegaaDoor
