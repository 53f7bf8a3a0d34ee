/-
  Package sector: what lies in each sector.
-/
import Derived.Test.YtjmmbafpiahhiaaSec12
namespace Go.Proofs.Ytjmmbafpiahhiaa
open Go.RowKit Go.Maps Go.Sort Go.Shelf Crv

theorem get_row (bs : List UInt8) (i n p : Nat) : (rowS bs i n)[p]? = if p < 64 * n then bs[64 * i + p]? else none := by
  unfold rowS
  rw [List.getElem?_take, List.getElem?_drop]
/-- A text, filled up with zeros. -/
def padS (l : List UInt8) : List UInt8 := l ++ List.replicate (64 - l.length) 0
theorem length_padS {l : List UInt8} (h : l.length ≤ 64) : (padS l).length = 64 := by
  unfold padS
  rw [List.length_append, List.length_replicate]
  omega
theorem get_put {bs : List UInt8} {sz i : Nat} {l : List UInt8} (hb : bs.length = 64 * sz) (hi : i < sz) (hl : l.length ≤ 64) (p : Nat) :
    (putS bs i l)[p]? = if 64 * i ≤ p ∧ p < 64 * i + 64 then (padS l)[p - 64 * i]? else bs[p]? := by
  have h1 : (bs.take (64 * i)).length = 64 * i := by rw [List.length_take]; omega
  have h2 := length_padS hl
  unfold putS
  show (bs.take (64 * i) ++ (padS l ++ bs.drop (64 * i + 64)))[p]? = _
  rw [List.getElem?_append, h1, List.getElem?_append, h2, List.getElem?_take, List.getElem?_drop]
  by_cases c1 : p < 64 * i
  · rw [if_pos c1, if_pos c1, if_neg (by omega)]
  · rw [if_neg c1]
    by_cases c2 : p < 64 * i + 64
    · rw [if_pos (by omega), if_pos ⟨by omega, c2⟩]
    · rw [if_neg (by omega), if_neg (by omega)]
      congr 1
      omega
theorem get_tear {bs : List UInt8} {sz i q : Nat} {l : List UInt8} (hb : bs.length = 64 * sz) (hi : i < sz) (hl : l.length = 64) (hq : q ≤ 64) (p : Nat) :
    (tearS bs i q l)[p]? = if 64 * i + q ≤ p ∧ p < 64 * i + 64 then l[p - 64 * i]? else bs[p]? := by
  have h1 : (bs.take (64 * i + q)).length = 64 * i + q := by rw [List.length_take]; omega
  have h2 : (l.drop q).length = 64 - q := by rw [List.length_drop]; omega
  unfold tearS
  rw [List.getElem?_append, h1, List.getElem?_append, h2, List.getElem?_take, List.getElem?_drop, List.getElem?_drop]
  by_cases c1 : p < 64 * i + q
  · rw [if_pos c1, if_pos c1, if_neg (by omega)]
  · rw [if_neg c1]
    by_cases c2 : p < 64 * i + 64
    · rw [if_pos (by omega), if_pos ⟨by omega, c2⟩]
      congr 1
      omega
    · rw [if_neg (by omega), if_neg (by omega)]
      congr 1
      omega
theorem row_put_same {bs : List UInt8} {sz i : Nat} {l : List UInt8} (hb : bs.length = 64 * sz) (hi : i < sz) (hl : l.length ≤ 64) : rowS (putS bs i l) i 1 = padS l := by
  apply List.ext_getElem?
  intro p
  rw [get_row, get_put hb hi hl]
  by_cases c : p < 64 * 1
  · rw [if_pos c, if_pos ⟨by omega, by omega⟩]
    congr 1
    omega
  · rw [if_neg c, List.getElem?_eq_none (by rw [length_padS hl]; omega)]
theorem row_put_other {bs : List UInt8} {sz i q : Nat} {l : List UInt8} (hb : bs.length = 64 * sz) (hi : i < sz) (hl : l.length ≤ 64) (hq : q ≠ i) : rowS (putS bs i l) q 1 = rowS bs q 1 := by
  apply List.ext_getElem?
  intro p
  rw [get_row, get_row, get_put hb hi hl]
  by_cases c : p < 64 * 1
  · rw [if_pos c, if_pos c, if_neg (by omega)]
  · rw [if_neg c, if_neg c]
theorem row_tear_same {bs : List UInt8} {sz i q : Nat} {l : List UInt8} (hb : bs.length = 64 * sz) (hi : i < sz) (hl : l.length = 64) (hq : q ≤ 64) : rowS (tearS bs i q l) i 1 = (rowS bs i 1).take q ++ l.drop q := by
  have hr := length_rowS hb (show i + 1 ≤ sz by omega)
  apply List.ext_getElem?
  intro p
  rw [get_row, get_tear hb hi hl hq, List.getElem?_append, List.length_take, hr, List.getElem?_take, List.getElem?_drop, get_row]
  by_cases c : p < 64 * 1
  · rw [if_pos c]
    by_cases c1 : p < q
    · rw [if_neg (by omega), if_pos (by omega), if_pos c1, if_pos c]
    · rw [if_pos ⟨by omega, by omega⟩, if_neg (by omega)]
      congr 1
      omega
  · rw [if_neg c, if_neg (by omega), List.getElem?_eq_none (by omega)]
theorem row_tear_other {bs : List UInt8} {sz i j q : Nat} {l : List UInt8} (hb : bs.length = 64 * sz) (hi : i < sz) (hl : l.length = 64) (hq : q ≤ 64) (hj : j ≠ i) : rowS (tearS bs i q l) j 1 = rowS bs j 1 := by
  apply List.ext_getElem?
  intro p
  rw [get_row, get_row, get_tear hb hi hl hq]
  by_cases c : p < 64 * 1
  · rw [if_pos c, if_pos c, if_neg (by omega)]
  · rw [if_neg c, if_neg c]

section
variable {w w' : World} {fb cb mb db sz : Nat} {a : Bool} {k : Int} {bs : List UInt8} {n : Nat} {D : DataW Unit}
theorem loose_tab {du : Tab} (h : Dk w fb cb mb db sz a k bs n D) (hn : n ≤ 1000000) (hdu : Du D du sz) :
    Calls Try.prog 20 #[ptr db] w fun e w' => ∃ ad cap, e = .returned (.slice ad (looseL du sz).length cap) ∧ Zs w' (.slice ad (looseL du sz).length cap) ((looseL du sz).map fun i : Nat => (i : Int)) ∧ Below w.heap.size w w' := by
  refine (loose_any h hn).mono ?_
  rintro e w1 ⟨v, ss, rfl, hp, hrow, _, hb⟩
  have hs := sort_looseL hdu h.m hp
  rw [hs] at hrow
  have hlen : ss.length = (looseL du sz).length := by
    have := congrArg List.length hs
    simpa using this
  have hz := Zs.of_row hrow (by rw [List.length_map, hlen])
  obtain ⟨ad, cap, hv, hc⟩ := hz
  rw [List.length_map] at hv
  subst hv
  exact ⟨ad, cap, rfl, ⟨ad, cap, by rw [List.length_map], hc⟩, hb⟩
end
end Go.Proofs.Ytjmmbafpiahhiaa
