/-
  Package sector: the map of what is durable, as a table; Loose.
-/
import Derived.Test.YtjmmbafpiahhiaaSec8
import Derived.Maps.RangeWalk
namespace Go.Proofs.Ytjmmbafpiahhiaa
open Go.RowKit Go.Maps Go.Sort Go.Shelf Crv

abbrev Tab := Nat → Option (List UInt8)
/-- A map reads as a table of sectors. -/
structure Du (D : DataW Unit) (du : Tab) (sz : Nat) : Prop where
  has : ∀ z : Int, Maps.has D (.int .i64 z) = true ↔ ∃ i : Nat, z = i ∧ (du i).isSome = true
  look : ∀ (i : Nat) (l : List UInt8), du i = some l → ∀ z, D.atKey (key i) z = secD l
  dom : ∀ i : Nat, (du i).isSome = true → i < sz
  len : ∀ (i : Nat) (l : List UInt8), du i = some l → l.length = 64
theorem Du.none (sz : Nat) : Du (.map []) (fun _ => none) sz := ⟨fun z => by simp [Maps.has], fun i l h => by simp at h, fun i h => by simp at h, fun i l h => by simp at h⟩
/-- What loosen makes of the table. -/
def looseT (du : Tab) (bs : List UInt8) (i : Nat) : Tab := fun q => if q = i ∧ du i = none then some (rowS bs i 1) else du q
theorem key_ne {i q : Nat} (h : q ≠ i) : key q ≠ key i := fun e => h (by injection e with _ e; omega)
theorem int_ne {z : Int} {i : Nat} (h : z ≠ i) : Lit.int IntKind.i64 z ≠ key i := fun e => h (by injection e)
theorem Du.loose {D : DataW Unit} {du : Tab} {sz i : Nat} {bs : List UInt8} (h : Du D du sz) (hm : IsMap D) (hi : i < sz) (hl : (rowS bs i 1).length = 64) : Du (looseD D bs i) (looseT du bs i) sz := by
  have hhi : Maps.has D (key i) = (du i).isSome := by
    rw [Bool.eq_iff_iff, h.has]
    constructor
    · rintro ⟨j, e, hj⟩
      have : i = j := by omega
      subst this
      exact hj
    · intro hj
      exact ⟨i, rfl, hj⟩
  cases hd : du i with
  | some l0 =>
    have e1 : looseD D bs i = D := by unfold looseD; rw [hhi, hd]; rfl
    have e2 : looseT du bs i = du := by
      funext q
      unfold looseT
      rw [if_neg (by rw [hd]; simp)]
    rw [e1, e2]
    exact h
  | none =>
    have e1 : looseD D bs i = D.put (key i) (secD (rowS bs i 1)) := by unfold looseD; rw [hhi, hd]; rfl
    have e2 : ∀ q, looseT du bs i q = if q = i then some (rowS bs i 1) else du q := fun q => by
      unfold looseT
      by_cases hq : q = i
      · rw [if_pos ⟨hq, hd⟩, if_pos hq]
      · rw [if_neg (fun e => hq e.1), if_neg hq]
    rw [e1]
    refine ⟨fun z => ?_, fun q l hq z => ?_, fun q hq => ?_, fun q l hq => ?_⟩
    · by_cases hz : z = i
      · subst hz
        rw [has_put_same hm (show WideAt.IsKeyLit (key i) from trivial)]
        simp only [true_iff]
        exact ⟨i, rfl, by rw [e2, if_pos rfl]; rfl⟩
      · rw [has_put_other (int_ne hz), h.has]
        constructor
        · rintro ⟨j, e, hj⟩
          exact ⟨j, e, by rw [e2, if_neg (by omega)]; exact hj⟩
        · rintro ⟨j, e, hj⟩
          rw [e2, if_neg (by omega)] at hj
          exact ⟨j, e, hj⟩
    · rw [e2] at hq
      by_cases hqi : q = i
      · subst hqi
        rw [if_pos rfl] at hq
        injection hq with hq
        rw [atKey_put_same hm (show WideAt.IsKeyLit (key q) from trivial), hq]
      · rw [if_neg hqi] at hq
        rw [atKey_put_other (key_ne hqi)]
        exact h.look q l hq z
    · rw [e2] at hq
      by_cases hqi : q = i
      · omega
      · rw [if_neg hqi] at hq
        exact h.dom q hq
    · rw [e2] at hq
      by_cases hqi : q = i
      · rw [if_pos hqi] at hq
        injection hq with hq
        rw [← hq]
        exact hl
      · rw [if_neg hqi] at hq
        exact h.len q l hq

open Go.ChangeMaps Go.MapKept Go.WideShapes Go.WideElems in
set_option maxRecDepth 100000 in
theorem int_entries {w : World} {b n : Nat} {D : DataW Unit} (h : w.ownsMap Try.prog TN secElem b n D) : ∃ es, D = .map es ∧ es.Pairwise (fun p q => p.1 ≠ q.1) ∧ ∀ p ∈ es, ∃ x, p.1 = .int .i64 x := by
  obtain ⟨es, clock, _, F, _, rfl⟩ := h
  refine ⟨_, rfl, ((sorted_perm _).pairwise_iff (fun {_ _} hne => Ne.symm hne)).2 (Maps.fit_apart keyed_int F), fun p hp => ?_⟩
  obtain ⟨x, hx, rfl⟩ := List.mem_map.1 (mem_sorted.1 hp)
  obtain ⟨y, hy⟩ := F.reads x hx
  rw [rg_of hy]
  obtain ⟨z, _, hz, _⟩ := Maps.keyOf_i64 Try.underlying3 (rd_key hy)
  exact ⟨z, hz⟩

/-- The loose sectors. -/
def looseL (du : Tab) (sz : Nat) : List Nat := (List.range sz).filter fun i => (du i).isSome
theorem mem_looseL {du : Tab} {sz i : Nat} : i ∈ looseL du sz ↔ i < sz ∧ (du i).isSome = true := by simp [looseL]
theorem looseL_sorted (du : Tab) (sz : Nat) : (looseL du sz).Pairwise (· < ·) := List.Pairwise.filter _ List.pairwise_lt_range
theorem looseL_length (du : Tab) (sz : Nat) : (looseL du sz).length ≤ sz := by
  have := List.length_filter_le (fun i => (du i).isSome) (List.range sz)
  simpa [looseL] using this
theorem sort_looseL {w : World} {b n : Nat} {D : DataW Unit} {du : Tab} {sz : Nat} (h : Du D du sz) (hown : w.ownsMap Try.prog TN secElem b n D) {ss : List Int} (hs : ss.Perm (intKeys D)) : ss.mergeSort (fun x y => decide (x ≤ y)) = (looseL du sz).map (fun i : Nat => (i : Int)) := by
  have hp : ((looseL du sz).map (fun i : Nat => (i : Int))).Perm (intKeys D) := by
    obtain ⟨es, rfl, hpw, hks⟩ := int_entries hown
    refine perm_intKeys hpw hks ?_ ?_
    · exact List.pairwise_map.2 ((looseL_sorted du sz).imp (fun {a b} hab e => by omega))
    · intro x
      rw [h.has, List.mem_map]
      constructor
      · rintro ⟨i, hi, rfl⟩
        exact ⟨i, rfl, (mem_looseL.1 hi).2⟩
      · rintro ⟨i, rfl, hi⟩
        exact ⟨i, mem_looseL.2 ⟨h.dom i hi, hi⟩, rfl⟩
  rw [mergeSort_of_perm_i (hs.trans hp.symm)]
  refine List.mergeSort_of_pairwise (List.pairwise_map.2 ((looseL_sorted du sz).imp (fun {a b} hab => ?_)))
  simp only [decide_eq_true_eq]
  omega
end Go.Proofs.Ytjmmbafpiahhiaa
