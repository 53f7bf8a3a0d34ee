/-
  SectorPlays: the document's disk as lists, and what each call makes of them.
-/
import Derived.Test.YtjmmbafpiahhiaaSec16
import Derived.Test.YtjmmbafpiahhiaaSRow
namespace Go.Proofs.Ytjmmbafpiahhiaa
open Go.RowKit Go.Maps Go.Sort Go.Shelf Crv

theorem now_write {bs : List UInt8} {D : DataW Unit} {i sz : Nat} {ls : List (List UInt8)} (hb : bs.length = 64 * sz) (hi : i + ls.length ≤ sz) (hl : ∀ l ∈ ls, l.length ≤ 64) {j : Nat} (hj : j < ls.length) :
    (rows (nowF (wrTo bs D i ls j).1) sz).set (i + j) (padS (ls.getD j [])) = rows (nowF (wrTo bs D i ls (j + 1)).1) sz := by
  rw [set_rows]
  refine rows_congr fun q hq => ?_
  have hlen := length_wrTo (D := D) hb hi hl j (by omega)
  have hlj := hl _ (getD_mem hj)
  show (if q = i + j then _ else _) = rowS (putS _ _ _) q 1
  by_cases h : q = i + j
  · subst h
    rw [if_pos rfl, row_put_same hlen (by omega) hlj]
  · rw [if_neg h, row_put_other hlen (by omega) hlj h]
    rfl
theorem loose_write {du : Tab} {bs : List UInt8} {D : DataW Unit} {i sz : Nat} {ls : List (List UInt8)} {j : Nat} :
    (rows (looseF (duTo du bs D i ls j)) sz).set (i + j) true = rows (looseF (duTo du bs D i ls (j + 1))) sz := by
  rw [set_rows]
  refine rows_congr fun q hq => ?_
  show (if q = i + j then _ else _) = (looseT _ _ _ q).isSome
  rw [some_looseT]
  by_cases h : q = i + j
  · rw [if_pos h, decide_eq_true h, Bool.or_true]
  · rw [if_neg h, decide_eq_false h, Bool.or_false]
    rfl
theorem sure_write {du : Tab} {bs : List UInt8} {D : DataW Unit} {i sz : Nat} {ls : List (List UInt8)} (hb : bs.length = 64 * sz) (hi : i + ls.length ≤ sz) (hl : ∀ l ∈ ls, l.length ≤ 64) (q : Nat) :
    ∀ j, j ≤ ls.length → sureF (wrTo bs D i ls j).1 (duTo du bs D i ls j) q = sureF bs du q
  | 0, _ => rfl
  | j + 1, hj => by
    have ih := sure_write (du := du) (D := D) hb hi hl q j (by omega)
    rw [← ih]
    have hlen := length_wrTo (D := D) hb hi hl j (by omega)
    have hlj := hl _ (getD_mem (show j < ls.length by omega))
    unfold sureF
    show ((looseT _ _ _ q).getD (rowS (putS _ _ _) q 1)) = _
    unfold looseT
    by_cases h : q = i + j
    · subst h
      cases hd : duTo du bs D i ls j (i + j) with
      | none => rw [if_pos ⟨rfl, rfl⟩]; rfl
      | some l => rw [if_neg (by simp)]; rfl
    · rw [if_neg (fun e => h e.1), row_put_other hlen (by omega) hlj h]
/-- How many loose sectors lie ahead of one. -/
def cntS (du : Tab) (q : Nat) : Nat := ((List.range q).filter fun i => (du i).isSome).length
theorem cntS_succ (du : Tab) (q : Nat) : cntS du (q + 1) = cntS du q + if (du q).isSome then 1 else 0 := by
  unfold cntS
  rw [List.range_succ, List.filter_append, List.length_append]
  by_cases h : (du q).isSome
  · rw [if_pos h]; simp [h]
  · rw [if_neg h]; simp [h]
theorem cntS_le (du : Tab) (q : Nat) : cntS du q ≤ q := by
  have := List.length_filter_le (fun i => (du i).isSome) (List.range q)
  simpa [cntS] using this
theorem looseL_at {du : Tab} {sz q : Nat} (hq : q < sz) (h : (du q).isSome = true) : (looseL du sz)[cntS du q]? = some q := by
  obtain ⟨m, rfl⟩ : ∃ m, sz = q + (m + 1) := ⟨sz - q - 1, by omega⟩
  unfold looseL cntS
  rw [List.range_add, List.filter_append, List.getElem?_append_right (Nat.le_refl _), Nat.sub_self, show List.range (m + 1) = 0 :: (List.range m).map Nat.succ from List.range_succ_eq_map, List.map_cons, Nat.add_zero, List.filter_cons_of_pos (by simpa using h)]
  rfl
theorem looseL_full (du : Tab) (sz : Nat) : (looseL du sz).length = cntS du sz := rfl
/-- What a crash leaves of a sector. -/
def tornF (bs : List UInt8) (du : Tab) (ch : List Int) (q : Nat) : List UInt8 := (rowS bs q 1).take (keptS ch (cntS du q)) ++ ((du q).getD []).drop (keptS ch (cntS du q))
theorem row_crTo_at {bs : List UInt8} {du : Tab} {L : List Nat} {ch : List Int} {sz q p : Nat} (hb : bs.length = 64 * sz) (hL : ∀ i ∈ L, i < sz ∧ ((du i).getD []).length = 64) (hs : L.Pairwise (· < ·)) (hp : L[p]? = some q) : ∀ j, j ≤ L.length →
    rowS (crTo bs du L ch j) q 1 = if p < j then (rowS bs q 1).take (keptS ch p) ++ ((du q).getD []).drop (keptS ch p) else rowS bs q 1
  | 0, _ => rfl
  | j + 1, h => by
    obtain ⟨hpl, hpq⟩ := List.getElem?_eq_some_iff.1 hp
    have ih := row_crTo_at (ch := ch) hb hL hs hp j (by omega)
    have hm : L.getD j 0 ∈ L := by rw [List.getD_eq_getElem?_getD, List.getElem?_eq_getElem (by omega)]; exact List.getElem_mem _
    have hh := hL _ hm
    have hlen := length_crTo (ch := ch) hb hL j (by omega)
    show rowS (tearS _ _ _ _) q 1 = _
    by_cases hj : p = j
    · subst hj
      have e : L.getD p 0 = q := by rw [List.getD_eq_getElem?_getD, hp]; rfl
      rw [e] at hh ⊢
      rw [row_tear_same hlen hh.1 hh.2 (keptS_le _ _), ih, if_neg (by omega), if_pos (by omega)]
    · have hne : q ≠ L.getD j 0 := by
        rw [List.getD_eq_getElem?_getD, List.getElem?_eq_getElem (show j < L.length by omega), ← hpq]
        show L[p] ≠ L[j]
        rcases Nat.lt_or_gt_of_ne hj with h1 | h1
        · have := List.pairwise_iff_getElem.1 hs p j hpl (by omega) h1
          omega
        · have := List.pairwise_iff_getElem.1 hs j p (by omega) hpl h1
          omega
      rw [row_tear_other hlen hh.1 hh.2 (keptS_le _ _) hne, ih]
      by_cases hc : p < j
      · rw [if_pos hc, if_pos (by omega)]
      · rw [if_neg hc, if_neg (by omega)]
theorem row_crash {bs : List UInt8} {du : Tab} {ch : List Int} {sz q : Nat} (hb : bs.length = 64 * sz) (hL : ∀ i ∈ looseL du sz, i < sz ∧ ((du i).getD []).length = 64) (hq : q < sz) :
    rowS (crTo bs du (looseL du sz) ch (looseL du sz).length) q 1 = if (du q).isSome = true then tornF bs du ch q else rowS bs q 1 := by
  by_cases h : (du q).isSome = true
  · have hp := looseL_at hq h
    rw [row_crTo_at hb hL (looseL_sorted du sz) hp _ (Nat.le_refl _), if_pos (List.getElem?_eq_some_iff.1 hp).1, if_pos h]
    rfl
  · rw [if_neg h, row_crTo_other hb hL (fun hm => h (mem_looseL.1 hm).2) _ (Nat.le_refl _)]
/-- The list of a crash under way: the first i sectors are done. -/
def crF (bs : List UInt8) (du : Tab) (ch : List Int) (i q : Nat) : List UInt8 := if q < i ∧ (du q).isSome = true then tornF bs du ch q else sureF bs du q
theorem crF_step {bs : List UInt8} {du : Tab} {ch : List Int} {sz i : Nat} (h : (du i).isSome = true) : (rows (crF bs du ch i) sz).set i (tornF bs du ch i) = rows (crF bs du ch (i + 1)) sz := by
  rw [set_rows]
  refine rows_congr fun q hq => ?_
  unfold crF
  by_cases hi : q = i
  · subst hi
    rw [if_pos rfl, if_pos ⟨by omega, h⟩]
  · rw [if_neg hi]
    by_cases hc : q < i ∧ (du q).isSome = true
    · rw [if_pos hc, if_pos ⟨by omega, hc.2⟩]
    · rw [if_neg hc, if_neg (fun e => hc ⟨by omega, e.2⟩)]
theorem crF_skip {bs : List UInt8} {du : Tab} {ch : List Int} {sz i : Nat} (h : (du i).isSome = false) : rows (crF bs du ch i) sz = rows (crF bs du ch (i + 1)) sz := by
  refine rows_congr fun q hq => ?_
  unfold crF
  by_cases hc : q < i ∧ (du q).isSome = true
  · rw [if_pos hc, if_pos ⟨by omega, hc.2⟩]
  · rw [if_neg hc, if_neg (fun e => hc ⟨by
      rcases Nat.lt_or_eq_of_le (show q ≤ i by omega) with h1 | h1
      · exact h1
      · subst h1
        rw [h] at e
        exact absurd e.2 (by simp), e.2⟩)]
theorem crF_all {bs : List UInt8} {du : Tab} {ch : List Int} {sz : Nat} (hb : bs.length = 64 * sz) (hL : ∀ i ∈ looseL du sz, i < sz ∧ ((du i).getD []).length = 64) : rows (crF bs du ch sz) sz = rows (nowF (crTo bs du (looseL du sz) ch (looseL du sz).length)) sz := by
  refine rows_congr fun q hq => ?_
  unfold nowF
  rw [row_crash hb hL hq]
  unfold crF
  by_cases h : (du q).isSome = true
  · rw [if_pos ⟨hq, h⟩, if_pos h]
  · rw [if_neg (fun e => h e.2), if_neg h]
    unfold sureF
    cases hd : du q with
    | none => rfl
    | some l => rw [hd] at h; exact absurd rfl h
theorem sure_none (bs : List UInt8) : sureF bs (fun _ => none) = nowF bs := rfl
/-- A text with another byte. -/
def bentL (s : List UInt8) (p : Nat) (b : UInt8) : List UInt8 := s.set p (s.getD p 0 ^^^ b)
theorem length_bentL (s : List UInt8) (p : Nat) (b : UInt8) : (bentL s p b).length = s.length := by simp [bentL]
theorem get_bentL (s : List UInt8) (p : Nat) (b : UInt8) (q : Nat) : (bentL s p b)[q]? = if q = p ∧ p < s.length then some (s.getD p 0 ^^^ b) else s[q]? := by
  unfold bentL
  rw [List.getElem?_set]
  by_cases h : p = q
  · subst h
    rw [if_pos rfl]
    by_cases hl : p < s.length
    · rw [if_pos hl, if_pos ⟨rfl, hl⟩]
    · rw [if_neg hl, if_neg (fun e => hl e.2), List.getElem?_eq_none (by omega)]
  · rw [if_neg h, if_neg (fun e => h e.1.symm)]
theorem bentL_split {s : List UInt8} {p : Nat} (h : p < s.length) (b : UInt8) : bentL s p b = s.take p ++ ((s.getD p 0 ^^^ b) :: s.drop (p + 1)) := by
  unfold bentL
  rw [List.set_eq_take_append_cons_drop, if_pos h]
theorem row_bent {bs : List UInt8} {sz i p : Nat} {b : UInt8} (hb : bs.length = 64 * sz) (hi : i < sz) (hp : p < 64) (q : Nat) : rowS (bentL bs (64 * i + p) b) q 1 = if q = i then bentL (rowS bs i 1) p b else rowS bs q 1 := by
  have hr := length_rowS hb (show i + 1 ≤ sz by omega)
  apply List.ext_getElem?
  intro r
  rw [get_row, get_bentL]
  have hg : (rowS bs i 1).getD p 0 = bs.getD (64 * i + p) 0 := by
    rw [List.getD_eq_getElem?_getD, get_row, if_pos (by omega), List.getD_eq_getElem?_getD]
  by_cases hc64 : r < 64 * 1
  · rw [if_pos hc64]
    by_cases hq : q = i
    · subst hq
      rw [if_pos rfl, get_bentL, hr, hg, get_row, if_pos hc64]
      by_cases hc : r = p
      · subst hc
        rw [if_pos ⟨rfl, by omega⟩, if_pos ⟨rfl, by omega⟩]
      · rw [if_neg (fun e => hc (by omega)), if_neg (fun e => hc e.1)]
    · rw [if_neg hq, get_row, if_pos hc64, if_neg (fun e => hq (by omega))]
  · rw [if_neg hc64]
    by_cases hq : q = i
    · subst hq
      rw [if_pos rfl, List.getElem?_eq_none (by rw [length_bentL, hr]; omega)]
    · rw [if_neg hq, get_row, if_neg hc64]
/-- The table behind a byte was bent. -/
def bentT (du : Tab) (i p : Nat) (b : UInt8) : Tab := fun q => if q = i then (du i).map (fun l => bentL l p b) else du q
theorem now_bent {bs : List UInt8} {sz i p : Nat} {b : UInt8} (hb : bs.length = 64 * sz) (hi : i < sz) (hp : p < 64) : (rows (nowF bs) sz).set i (bentL (rowS bs i 1) p b) = rows (nowF (bentL bs (64 * i + p) b)) sz := by
  rw [set_rows]
  refine rows_congr fun q hq => ?_
  unfold nowF
  rw [row_bent hb hi hp]
theorem sure_bent {bs : List UInt8} {du : Tab} {sz i p : Nat} {b : UInt8} (hb : bs.length = 64 * sz) (hi : i < sz) (hp : p < 64) : (rows (sureF bs du) sz).set i (bentL (sureF bs du i) p b) = rows (sureF (bentL bs (64 * i + p) b) (bentT du i p b)) sz := by
  rw [set_rows]
  refine rows_congr fun q hq => ?_
  unfold sureF bentT
  rw [row_bent hb hi hp]
  by_cases h : q = i
  · subst h
    rw [if_pos rfl, if_pos rfl, if_pos rfl]
    cases du q <;> rfl
  · rw [if_neg h, if_neg h, if_neg h]
theorem loose_bent {du : Tab} {i p : Nat} {b : UInt8} : looseF (bentT du i p b) = looseF du := by
  funext q
  unfold looseF bentT
  by_cases h : q = i
  · subst h
    rw [if_pos rfl]
    cases du q <;> rfl
  · rw [if_neg h]
theorem bentT_none {du : Tab} {i p : Nat} {b : UInt8} (h : du i = none) : bentT du i p b = du := by
  funext q
  unfold bentT
  by_cases hq : q = i
  · subst hq
    rw [if_pos rfl, h]
    rfl
  · rw [if_neg hq]
/-- The fuse as the document's number. -/
def fuseF (a : Bool) (k : Int) : Int := if a = true then k else -1
theorem fuse_ok {a : Bool} {k : Int} : okS a k = decide (fuseF a k ≠ 0) := by
  unfold okS fuseF
  cases a <;> simp
theorem fuse_left {a : Bool} {k : Int} (hk : 0 ≤ k) : fuseF a (leftS a k) = if 0 < fuseF a k then fuseF a k - 1 else fuseF a k := by
  cases a with
  | false => simp [fuseF]
  | true =>
    simp only [leftS, fuseF, true_and, if_true]
    by_cases h : k = 0
    · subst h; simp
    · rw [if_pos h, if_pos (by omega)]
end Go.Proofs.Ytjmmbafpiahhiaa
