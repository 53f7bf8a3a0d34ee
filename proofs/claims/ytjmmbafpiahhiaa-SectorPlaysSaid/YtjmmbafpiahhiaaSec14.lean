/-
  Package sector: what Write leaves in each sector, and which are loose behind it.
-/
import Derived.Test.YtjmmbafpiahhiaaSec13
namespace Go.Proofs.Ytjmmbafpiahhiaa
open Go.RowKit Go.Maps Go.Sort Go.Shelf Crv

theorem str_plus (a b : List UInt8) : str a ++ str b = str (a ++ b) := by
  show (⟨a.toArray⟩ : ByteArray) ++ ⟨b.toArray⟩ = ⟨(a ++ b).toArray⟩
  rw [ByteArray.mk_append_mk]
theorem getD_mem {ls : List (List UInt8)} {j : Nat} (h : j < ls.length) : ls.getD j [] ∈ ls := by
  rw [List.getD_eq_getElem?_getD, List.getElem?_eq_getElem h]; exact List.getElem_mem _
/-- What lies in each sector once the first j texts are written. -/
theorem row_wrTo {bs : List UInt8} {D : DataW Unit} {i sz : Nat} {ls : List (List UInt8)} (hb : bs.length = 64 * sz) (hi : i + ls.length ≤ sz) (hl : ∀ l ∈ ls, l.length ≤ 64) (q : Nat) :
    ∀ j, j ≤ ls.length → rowS (wrTo bs D i ls j).1 q 1 = if i ≤ q ∧ q < i + j then padS (ls.getD (q - i) []) else rowS bs q 1
  | 0, _ => by rw [if_neg (by omega)]; rfl
  | j + 1, h => by
    have ih := row_wrTo (D := D) hb hi hl q j (by omega)
    have hlen := length_wrTo (D := D) hb hi hl j (by omega)
    have hlj := hl _ (getD_mem (show j < ls.length by omega))
    show rowS (putS _ _ _) q 1 = _
    by_cases hq : q = i + j
    · subst hq
      rw [row_put_same hlen (by omega) hlj, if_pos ⟨by omega, by omega⟩, show i + j - i = j by omega]
    · rw [row_put_other hlen (by omega) hlj hq, ih]
      by_cases hc : i ≤ q ∧ q < i + j
      · rw [if_pos hc, if_pos ⟨hc.1, by omega⟩]
      · rw [if_neg hc, if_neg (by omega)]
/-- The table of what is durable once the first j texts are written. -/
def duTo (du : Tab) (bs : List UInt8) (D : DataW Unit) (i : Nat) (ls : List (List UInt8)) : Nat → Tab
  | 0 => du
  | j + 1 => looseT (duTo du bs D i ls j) (wrTo bs D i ls j).1 (i + j)
theorem isMap_looseD {D : DataW Unit} {bs : List UInt8} {i : Nat} (h : IsMap D) : IsMap (looseD D bs i) := by
  unfold looseD
  split
  · exact h
  · exact h.put _ _
theorem isMap_wrTo {bs : List UInt8} {D : DataW Unit} {i : Nat} {ls : List (List UInt8)} (h : IsMap D) : ∀ j, IsMap (wrTo bs D i ls j).2
  | 0 => h
  | j + 1 => isMap_looseD (isMap_wrTo h j)
theorem Du.write {D : DataW Unit} {du : Tab} {bs : List UInt8} {i sz : Nat} {ls : List (List UInt8)} (h : Du D du sz) (hm : IsMap D) (hb : bs.length = 64 * sz) (hi : i + ls.length ≤ sz) (hl : ∀ l ∈ ls, l.length ≤ 64) : ∀ j, j ≤ ls.length → Du (wrTo bs D i ls j).2 (duTo du bs D i ls j) sz
  | 0, _ => h
  | j + 1, hj => (Du.write h hm hb hi hl j (by omega)).loose (isMap_wrTo hm j) (by omega) (length_rowS (length_wrTo (D := D) hb hi hl j (by omega)) (by omega))
theorem some_looseT {du : Tab} {bs : List UInt8} {i q : Nat} : (looseT du bs i q).isSome = ((du q).isSome || decide (q = i)) := by
  unfold looseT
  by_cases hq : q = i
  · subst hq
    cases h : du q with
    | none => simp
    | some l => simp
  · rw [if_neg (fun e => hq e.1)]
    simp [hq]
theorem some_duTo {du : Tab} {bs : List UInt8} {D : DataW Unit} {i q : Nat} {ls : List (List UInt8)} : ∀ j, (duTo du bs D i ls j q).isSome = ((du q).isSome || decide (i ≤ q ∧ q < i + j))
  | 0 => by
    rw [decide_eq_false (by omega), Bool.or_false]; rfl
  | j + 1 => by
    show (looseT _ _ _ q).isSome = _
    rw [some_looseT, some_duTo j, Bool.or_assoc]
    congr 1
    rw [Bool.eq_iff_iff]
    simp
    omega
theorem looseL_all {du : Tab} {sz : Nat} (h : ∀ i, i < sz → (du i).isSome = true) : looseL du sz = List.range sz := by
  unfold looseL
  rw [List.filter_eq_self]
  intro i hi
  exact h i (by simpa using hi)
/-- A sector of what was read of the whole disk. -/
theorem row_of_row {bs : List UInt8} {i q m : Nat} (hq : q < m) : ((rowS bs i m).take (64 * q + 64)).drop (64 * q) = rowS bs (i + q) 1 := by
  apply List.ext_getElem?
  intro p
  rw [List.getElem?_drop, List.getElem?_take, get_row, get_row]
  by_cases c : p < 64 * 1
  · rw [if_pos (by omega), if_pos (by omega), if_pos c]
    congr 1
    omega
  · rw [if_neg (by omega), if_neg c]
end Go.Proofs.Ytjmmbafpiahhiaa
