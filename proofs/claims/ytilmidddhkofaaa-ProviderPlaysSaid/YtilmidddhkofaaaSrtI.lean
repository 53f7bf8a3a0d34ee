/-
  slices.Sort of numbers.
-/
import Derived.Test.YtilmidddhkofaaaFra
import Derived.Test.YtilmidddhkofaaaPd
namespace Go.Proofs.Ytilmidddhkofaaa
open Go.RowKit Go.Sort Go.Shelf Crv

theorem take_put {zs d : List Int} {cur : Array Value} (h : zs.length ≤ cur.size) (hd : d.length = zs.length) : (putCells (Value.int .i64) 0 d.toArray cur).toList.take zs.length = d.map iv := by
  apply List.ext_getElem?
  intro j
  by_cases hj : j < zs.length
  · rw [List.getElem?_take_of_lt hj, Array.getElem?_toList]
    simp only [putCells, Array.getElem?_mapIdx]
    rw [Array.getElem?_eq_getElem (by omega), Option.map_some, if_pos ⟨Nat.zero_le _, by simp; omega⟩, List.getElem?_map, List.getElem?_eq_getElem (by omega), Nat.sub_zero]
    simp [hd, hj]
  · rw [List.getElem?_eq_none (by rw [List.length_take]; omega), List.getElem?_eq_none (by rw [List.length_map]; omega)]
theorem sort_any {w : World} {base : Nat} {v : Value} {zs : List Int} (ho : Owns w base Tin v (zs.map iv)) (hl : zs.length ≤ 1000000) : Calls Try.prog 26 #[v] w fun e w' =>
    e = .returned (.tuple #[]) ∧ Owns w' base Tin v ((zs.mergeSort fun a b => decide (a ≤ b)).map iv) ∧ w.grownBy w' v.ownBlock := by
  have hlen := ho.1
  rw [List.length_map] at hlen
  rcases ho.2 with ⟨rfl, h0⟩ | ⟨g, cap, cur, rfl, hb, hg, hn, hm, hs, ht⟩
  · have e : zs = [] := by cases zs with
      | nil => rfl
      | cons y r => simp at h0
    subst e
    have h := AnyM.slices_Sort_int_none Try.sortA none 0 w
    refine Calls.mono (P := Try.prog) (f := 26) h ?_
    rintro e w' ⟨rfl, rfl⟩
    exact ⟨rfl, by simpa using ho, grownRefl _ _⟩
  · rw [List.length_map] at hn ht
    rw [List.length_map]
    have hgl := (Array.getElem?_eq_some_iff.1 hg).1
    have h := AnyM.slices_Sort_int Try.sortA g 0 cap zs w (fun j hj => by
      have hj' : j < zs.length := by simpa using hj
      have hc : cur.toList[j]? = some (iv zs[j]) := by
        have := congrArg (fun l : List Value => l[j]?) ht
        simp only [Nat.mul_one, List.getElem?_take_of_lt hj', List.getElem?_map, List.getElem?_eq_getElem hj', Option.map_some] at this
        exact this
      constructor
      · simp [World.cell?, hg]
        rw [← Array.getElem?_toList, hc, List.getElem?_eq_getElem hj']
        rfl
      · simp [World.frozen?, hg]) hgl (by omega)
    refine Calls.mono (P := Try.prog) (f := 26) h ?_
    rintro e w' ⟨rfl, n, os, rfl⟩
    have hsl : (zs.mergeSort fun a b => decide (a ≤ b)).length = zs.length := List.length_mergeSort _
    refine ⟨rfl, ⟨by simp [hsl], .inr ⟨g, cap, putCells (Value.int .i64) 0 (zs.mergeSort fun a b => decide (a ≤ b)).toArray cur, by simp [hsl], hb, ?_, by simp [hsl]; omega, hm, by simp [putCells, hs], ?_⟩⟩, ?_⟩
    · have hgm : (putRow (Value.int .i64) (Sort.ahead w n) g 0 (zs.mergeSort fun a b => decide (a ≤ b)).toArray).heap[g]? = some (.cells (putCells (Value.int .i64) 0 (zs.mergeSort fun a b => decide (a ≤ b)).toArray cur) Tin (0, 0)) := by
        show (w.heap.modify g _)[g]? = _
        rw [Array.getElem?_modify, if_pos rfl, hg]
        rfl
      show (_ ++ os)[g]? = _
      rw [Array.getElem?_append_left (by rw [size_putRow]; exact hgl)]
      exact hgm
    · rw [List.length_map, Nat.mul_one, hsl]
      exact take_put (by omega) hsl
    · refine ⟨rfl, rfl, rfl, by simp [grow, Sort.ahead], fun k hk hne => ?_⟩
      show (_ ++ os)[k]? = _
      rw [Array.getElem?_append_left (by rw [size_putRow]; exact hk)]
      have hne' : g ≠ k := fun e => hne (by rw [e]; rfl)
      simp [putRow, mapBlock, Sort.ahead, Array.getElem?_modify, hne']
end Go.Proofs.Ytilmidddhkofaaa
