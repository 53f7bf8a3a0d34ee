/-
  The document's disk as lists.
-/
import Derived.Test.YtjmmbafpiahhiaaSec7
namespace Go.Proofs.Ytjmmbafpiahhiaa
open Go.RowKit Go.Maps Crv

/-- A list of as many as there are sectors. -/
def rows {α : Type} (f : Nat → α) (sz : Nat) : List α := (List.range sz).map f
theorem length_rows {α : Type} (f : Nat → α) (sz : Nat) : (rows f sz).length = sz := by simp [rows]
theorem get_rows {α : Type} (f : Nat → α) {sz i : Nat} (h : i < sz) : (rows f sz)[i]? = some (f i) := by simp [rows, List.getElem?_range h]
theorem getD_rows {α : Type} (f : Nat → α) {sz i : Nat} (d : α) (h : i < sz) : (rows f sz).getD i d = f i := by rw [List.getD_eq_getElem?_getD, get_rows f h]; rfl
theorem rows_congr {α : Type} {f g : Nat → α} {sz : Nat} (h : ∀ i, i < sz → f i = g i) : rows f sz = rows g sz := List.map_congr_left fun i hi => h i (List.mem_range.1 hi)
theorem set_rows {α : Type} (f : Nat → α) {sz i : Nat} (x : α) : (rows f sz).set i x = rows (fun q => if q = i then x else f q) sz := by
  apply List.ext_getElem?
  intro q
  rw [List.getElem?_set]
  by_cases hq : q < sz
  · rw [get_rows _ hq, get_rows _ hq, length_rows]
    by_cases h : i = q
    · subst h
      rw [if_pos rfl, if_pos hq, if_pos rfl]
    · rw [if_neg h, if_neg (Ne.symm h)]
  · rw [List.getElem?_eq_none (by rw [length_rows]; omega), List.getElem?_eq_none (by rw [length_rows]; omega), length_rows]
    by_cases h : i = q
    · rw [if_pos h, if_neg (by omega)]
    · rw [if_neg h]
theorem rows_succ {α : Type} (f : Nat → α) (n : Nat) : rows f (n + 1) = rows f n ++ [f n] := by simp [rows, List.range_succ]
theorem map_rows {α β : Type} (f : Nat → α) (g : α → β) (n : Nat) : (rows f n).map g = rows (fun i => g (f i)) n := by simp [rows, Function.comp_def]
theorem rows_const {α : Type} (x : α) (n : Nat) : rows (fun _ => x) n = List.replicate n x := by simp [rows, List.map_const']
def nowF (bs : List UInt8) (q : Nat) : List UInt8 := rowS bs q 1
def looseF (du : Nat → Option (List UInt8)) (q : Nat) : Bool := (du q).isSome
def sureF (bs : List UInt8) (du : Nat → Option (List UInt8)) (q : Nat) : List UInt8 := (du q).getD (rowS bs q 1)
theorem rowS_succ (bs : List UInt8) (i n : Nat) : rowS bs i (n + 1) = rowS bs i n ++ rowS bs (i + n) 1 := by
  unfold rowS
  rw [show 64 * (n + 1) = 64 * n + 64 * 1 by omega, List.take_add, List.drop_drop, show 64 * i + 64 * n = 64 * (i + n) by omega]
theorem rowS_zero (bs : List UInt8) (i : Nat) : rowS bs i 0 = [] := by simp [rowS]
theorem own_cell {α : Type} {w : World} {B n c i : Nat} {T : TypeId} {a : Option Addr} {g : Nat → α} {F : α → Value} (h : Owns w B T (.slice a n c) ((rows g n).map F)) (hi : i < n) : ∃ b, a = some ⟨b, 0, none⟩ ∧ w.cell? ⟨b, i, none⟩ = some (F (g i)) ∧ b < w.heap.size ∧ w.frozen? ⟨b, i, none⟩ = false := by
  obtain ⟨a', cap, hv, -, -, hc⟩ := h.form
  injection hv with h1 h2 h3
  obtain ⟨b, hb, -, hcell⟩ := hc i (by rw [List.length_map, length_rows]; exact hi)
  rw [List.getElem?_map, get_rows _ hi] at hcell
  refine ⟨b, by rw [h1, hb], hcell, World.block_lt_of_cell? w _ hcell, ?_⟩
  rcases h.2 with ⟨hv, _⟩ | ⟨g', cap', cur, hv, _, hm, _⟩
  · injection hv with hv1 _ _
    rw [h1, hb] at hv1
    cases hv1
  · injection hv with hv1 _ _
    rw [h1, hb] at hv1
    injection hv1 with hv1
    injection hv1 with hv1
    subst hv1
    simp [World.frozen?, hm]
end Go.Proofs.Ytjmmbafpiahhiaa
