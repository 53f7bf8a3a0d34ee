/-
  ReputePlays: a book and the document's list beside each other.
-/
import Derived.Test.YtblfekecmahagaaDoorRPl5
import Derived.Test.YtblfekecmahagaaDoorRMap
namespace Go.Proofs.YtblfekecmahagaaDoor
open Go.RowKit Go.Maps Crv

/-- A list stands where a map's block alone turns. -/
theorem RdM.past {w w' : World} {v : Value} {l : List MI} {b : Nat} (h : RdM w v l) (hM : ∃ es c, w.heap[b]? = some (.map es c)) (hg : w.grownBy w' (some b)) : RdM w' v l := by
  obtain ⟨a, cap, hv, hcap, hc⟩ := h
  refine ⟨a, cap, hv, hcap, fun i hi => ?_⟩
  obtain ⟨g, off, ha, hlt, hr⟩ := hc i hi
  have hne : g ≠ b := by
    rintro rfl
    obtain ⟨es, cl, hb⟩ := hM
    have h0 := hr 0 (iv (l[i]'(by simpa using hi)).n) (by simp [miC])
    simp [World.cell?, hb] at h0
  exact ⟨g, off, ha, Nat.lt_of_lt_of_le hlt hg.size, fun j u hu => hg.cell (hr j u hu) (fun e => hne (by injection e))⟩
/-- A book and a list that say the same. -/
structure Pst (W0 : World) (k mb bb : Nat) (M : MKt) (B : BNt) (v : Value) (l : List MI) (w : World) : Prop where
  b : Lb W0 k mb bb M B w
  r : RdM w v l
  s : SameL l M B
/-- How long they are behind i acts, and how late it is. -/
structure PI (M : MKt) (B : BNt) (l : List MI) (now : Int) (i : Nat) : Prop where
  n : 0 ≤ now ∧ now ≤ 15 * (i : Int)
  m : M.length ≤ i
  b : B.length ≤ i
  l : l.length ≤ i
theorem PI.nil : PI [] [] [] 0 0 := ⟨by decide, Nat.le_refl _, Nat.le_refl _, Nat.le_refl _⟩
section
variable {W0 w w' : World} {k mb bb : Nat} {M : MKt} {B : BNt} {v : Value} {l : List MI} {now d : Int} {i : Nat}
theorem Pst.on (h : Pst W0 k mb bb M B v l w) (hb : Below w.heap.size w w') : Pst W0 k mb bb M B v l w' := ⟨h.b.on hb, h.r.below hb, h.s⟩
theorem PI.time (h : PI M B l now i) (hd : 0 ≤ d ∧ d ≤ 15) : PI M B l (now + d) (i + 1) := ⟨by have := h.n; omega, by have := h.m; omega, by have := h.b; omega, by have := h.l; omega⟩
theorem PI.good (h : PI M B l now i) (hd : 0 ≤ d ∧ d ≤ 15) (hu : Uniq M) (n : Int) (x : MI) : PI (goodM M n) B (setL l x) (now + d) (i + 1) :=
  ⟨by have := h.n; omega, Nat.le_trans (length_setM hu n _) (by have := h.m; omega), by have := h.b; omega, Nat.le_trans (length_setL l x) (by have := h.l; omega)⟩
theorem PI.sil (h : PI M B l now i) (hd : 0 ≤ d ∧ d ≤ 15) (hu : Uniq M) (n t : Int) (x : MI) : PI (silM M n t) B (setL l x) (now + d) (i + 1) :=
  ⟨by have := h.n; omega, Nat.le_trans (length_setM hu n _) (by have := h.m; omega), by have := h.b; omega, Nat.le_trans (length_setL l x) (by have := h.l; omega)⟩
theorem PI.ban (h : PI M B l now i) (hd : 0 ≤ d ∧ d ≤ 15) (hu : Uniq B) (n : Int) (p : PF) (x : MI) : PI M (banB B n p) (setL l x) (now + d) (i + 1) :=
  ⟨by have := h.n; omega, by have := h.m; omega, Nat.le_trans (length_ban hu n p) (by have := h.b; omega), Nat.le_trans (length_setL l x) (by have := h.l; omega)⟩
/-- All that is asked behind an act. -/
theorem tail_facts (h : Pst W0 k mb bb M B v l w) (hl : l.length ≤ 100000) {n : Int} (hn : In64 n) (now : Int) : ∃ (s wt u : Int) (b m : Bool) (Q R : PF),
    (∀ W, Below w.heap.size w W → Calls Tryd.prog 19 #[v, iv n] W fun e w' => e = .returned (.agg #[iv n, iv s, iv wt, iv u, .bool b, iv Q.1, tx Q.2.1, tx Q.2.2]) ∧ Below W.heap.size W w') ∧
    (∀ W, Below w.heap.size w W → Calls Tryd.prog 20 #[.pointer (some ⟨k, 0, none⟩), iv n] W fun e w' => e = .returned (.tuple #[.agg (pfC R).toArray, .bool b]) ∧ Below W.heap.size W w') ∧
    (∀ W, Below w.heap.size w W → Calls Tryd.prog 21 #[.pointer (some ⟨k, 0, none⟩), iv n] W fun e w' => e = .returned (iv s) ∧ Below W.heap.size W w') ∧
    (∀ W, Below w.heap.size w W → Calls Tryd.prog 22 #[.pointer (some ⟨k, 0, none⟩), iv n] W fun e w' => e = .returned (iv u) ∧ Below W.heap.size W w') ∧
    (∀ W, Below w.heap.size w W → Calls Tryd.prog 23 #[.pointer (some ⟨k, 0, none⟩), iv n, iv now] W fun e w' => e = .returned (.bool m) ∧ Below W.heap.size W w') ∧
    (∀ W, Below w.heap.size w W → Calls Tryd.prog 24 #[v, iv n, iv now] W fun e w' => e = .returned (.bool m) ∧ Below W.heap.size W w') ∧
    R.2.1.length = 32 ∧ (b = true → R.2.2 = Q.2.2) := by
  refine ⟨(mkOf M n).1, (mkOf M n).2.1, (mkOf M n).2.2, (getK n B).isSome, mayB M B n now, (getK n B).getD (0, [], []), (getK n B).getD zeroP, fun W hb => ?_, fun W hb => banned_any (h.on hb).b.v hn, fun W hb => ?_, fun W hb => ?_, fun W hb => may_any (h.on hb).b.v hn now, fun W hb => ?_, h.b.v.okb.get n, fun hs => ?_⟩
  · have := at_any (h.on hb).r hl n
    rw [h.s n] at this
    exact this
  · exact (score_any (h.on hb).b.v hn).mono fun _ _ q => ⟨q.1, q.2 ▸ Below.refl _ _⟩
  · exact (until_any (h.on hb).b.v hn).mono fun _ _ q => ⟨q.1, q.2 ▸ Below.refl _ _⟩
  · rw [h.s.may n now]
    exact rmay_any (h.on hb).r hl n now
  · cases hg : getK n B with
    | none => rw [hg] at hs; cases hs
    | some P => rfl
end
theorem owns_zsp {w : World} {b : Nat} {v : Value} {xs : List Int} (h : Owns w b Tin v (xs.map iv)) : ZsP w v xs := by
  obtain ⟨a, cap, e, _, _, h4⟩ := h.form
  rw [List.length_map] at e h4
  refine ⟨a, cap, e, fun i hi => ?_⟩
  obtain ⟨g, hg, _, hc⟩ := h4 i hi
  refine ⟨g, 0, hg, ?_⟩
  rw [Nat.zero_add, hc, List.getElem?_map, List.getElem?_eq_getElem hi, List.getD_eq_getElem?_getD, List.getElem?_eq_getElem hi]
  rfl
/-- The first twelve, each of sixteen. -/
def fewL (ks : List Int) (j : Nat) : List Int := (ks.take j).map (· % 16)
theorem fewL_step {ks : List Int} {j : Nat} (hj : j < ks.length) : fewL ks (j + 1) = fewL ks j ++ [ks.getD j 0 % 16] := by
  unfold fewL
  rw [List.take_succ_eq_append_getElem hj, List.map_append, List.getD_eq_getElem?_getD, List.getElem?_eq_getElem hj]
  rfl
theorem fewL_len (ks : List Int) (j : Nat) : (fewL ks j).length ≤ j := by
  unfold fewL
  rw [List.length_map, List.length_take]
  omega
theorem fewL_in {ks : List Int} {j : Nat} : ∀ x ∈ fewL ks j, In64 x := by
  intro x hx
  obtain ⟨y, _, rfl⟩ := List.mem_map.1 hx
  exact in64_of (by omega)
end Go.Proofs.YtblfekecmahagaaDoor
