/-
  ProviderPlays: how often each name stands in the list: the law's map.
-/
import Derived.Test.YtilmidddhkofaaaPo6
namespace Go.Proofs.Ytilmidddhkofaaa
open Go.RowKit Go.Maps Crv

abbrev Tsi : TypeId := 44
abbrev Tstr : TypeId := 9
def eS : Enc (List UInt8) Int := ⟨fun x => .string x, fun u => .lit (.int .i64 u), fun a b h => by injection h, fun _ => trivial⟩
theorem keyedS : Keyed Try.prog Tstr := string_keyed Try.underlying9
abbrev MpT (W : World) (b : Nat) (l : List (List UInt8 × Int)) : Prop := MpS Try.prog Tstr (plainElem Try.prog Tin) eS W b l
theorem keyS_of {x : List UInt8} (hx : x.length = 32) : keyOf Try.prog Tstr (tx x) = some (eS.ek x) := by
  have h : x.length ≤ maxLen := by rw [hx]; simp [maxLen]
  simp [keyOf, Try.underlying9, mapKey, eS, str]
  exact h
theorem elemS_of {u : Int} (hu : In64 u) : plainElem (H := Unit) Try.prog Tin (iv u) = some (eS.ev u, []) := plainElem_int Try.underlying3 hu
section
variable {W W' : World} {b : Nat} {l : List (List UInt8 × Int)}
theorem MpT.look (h : MpT W b l) {x : List UInt8} (hx : x.length = 32) : (Instr.lookup Tsi (.map (some b)) (tx x) false).run Try.prog W = .ok (iv ((getK x l).getD 0)) W := by
  obtain ⟨z, hrun, hat, _⟩ := World.ownsMap.lookup_int h keyedS Try.underlying44 Try.underlying3 (zeroI W) (keyS_of hx)
  rw [Enc.atKey] at hat
  rw [hrun]
  cases hg : getK x l with
  | none =>
    rw [hg] at hat
    simp only [Option.map_none, Option.getD_none, DataW.lit.injEq, Lit.int.injEq, true_and] at hat
    rw [hat]; rfl
  | some u =>
    rw [hg] at hat
    simp only [Option.map_some, Option.getD_some, eS, DataW.lit.injEq, Lit.int.injEq, true_and] at hat
    rw [hat]; rfl
theorem MpT.put (h : MpT W b l) {x : List UInt8} (hx : x.length = 32) {u : Int} (hu : In64 u) (hn : l.length ≤ 1000000) : ∃ W', (Instr.mapUpdate Tsi (.map (some b)) (tx x) (iv u)).run Try.prog W = .ok () W' ∧ MpT W' b (eS.set x u l) ∧ W.grownBy W' (some b) := by
  obtain ⟨W', hrun, ho, hg⟩ := World.ownsMap.update h keyedS Try.underlying44 (by simp only [maxLen]; omega) (keyS_of hx) (elemS_of hu)
  rw [Enc.put] at ho
  exact ⟨W', hrun, MpS.tight ho, hg⟩
theorem MpT.len (h : MpT W b l) (ty : TypeId) : (Builtin.len_ #[Tsi] ty #[.map (some b)]).run Try.prog W = .ok (iv l.length) W := by
  have := World.ownsMap.len h Try.underlying44 ty
  rwa [Enc.size] at this
end
/-- The map behind a list. -/
def cntM (l : List OV) : List (List UInt8 × Int) := l.foldl (fun m o => eS.set o.1 ((getK o.1 m).getD 0 + 1) m) []
theorem cntM_snoc (l : List OV) (o : OV) : cntM (l ++ [o]) = eS.set o.1 ((getK o.1 (cntM l)).getD 0 + 1) (cntM l) := by unfold cntM; rw [List.foldl_append]; rfl
theorem cntM_ok : ∀ l : List OV, Uniq (cntM l) ∧ (∀ id, getK id (cntM l) = if countO id l = 0 then none else some (countO id l : Int)) ∧ (cntM l).length ≤ l.length := by
  suffices hs : ∀ r : List OV, Uniq (cntM r.reverse) ∧ (∀ id, getK id (cntM r.reverse) = if countO id r.reverse = 0 then none else some (countO id r.reverse : Int)) ∧ (cntM r.reverse).length ≤ r.reverse.length from fun l => by
    have := hs l.reverse
    rwa [List.reverse_reverse] at this
  intro r
  induction r with
  | nil => exact ⟨by simp [cntM, Uniq], fun id => by simp [cntM, getK, countO], by simp [cntM]⟩
  | cons o r ih =>
    obtain ⟨l, hl⟩ : ∃ l, l = r.reverse := ⟨_, rfl⟩
    rw [← hl] at ih
    rw [List.reverse_cons, ← hl]
    obtain ⟨h1, h2, h3⟩ := ih
    rw [cntM_snoc]
    refine ⟨Uniq.set eS h1 _ _, fun id => ?_, ?_⟩
    · have hc1 : o.1 = id → countO id (l ++ [o]) = countO id l + 1 := fun e => by
        unfold countO
        rw [List.countP_append]
        simp [e]
      have hc0 : o.1 ≠ id → countO id (l ++ [o]) = countO id l := fun e => by
        unfold countO
        rw [List.countP_append]
        simp [e]
      rw [getK_set eS h1, h2 o.1, h2 id]
      by_cases e : id = o.1
      · subst e
        rw [if_pos rfl, hc1 rfl, if_neg (show ¬ (countO o.1 l + 1 = 0) by omega)]
        by_cases c : countO o.1 l = 0 <;> simp [c]
      · rw [if_neg e, hc0 (fun q => e q.symm)]
    · rw [length_set eS h1, List.length_append, List.length_singleton]
      split <;> omega
theorem Same.cnt {l : List OV} {V : PV} (h : Same l V) : (cntM l).length = V.length ∧ ∀ p ∈ V, ∃ c : Int, getK p.1 (cntM l) = some c ∧ 0 < c := by
  obtain ⟨h1, h2, -⟩ := cntM_ok l
  have hpos : ∀ p ∈ V, 0 < countO p.1 l := fun p hp => by
    rw [h.count p.1]
    unfold rowV
    rw [(mem_getK h.uniq p.1 p.2).2 hp]
    have := h.full p hp
    cases hq : p.2 with
    | nil => rw [hq] at this; simp at this
    | cons a r => simp
  refine ⟨?_, fun p hp => ⟨countO p.1 l, by rw [h2, if_neg (by have := hpos p hp; omega)], by have := hpos p hp; omega⟩⟩
  have hp : ((cntM l).map (·.1)).Perm (V.map (·.1)) := by
    refine (List.perm_ext_iff_of_nodup ?_ ?_).2 fun id => ?_
    · unfold List.Nodup
      rw [List.pairwise_map]
      exact h1
    · unfold List.Nodup
      rw [List.pairwise_map]
      exact h.uniq
    · constructor
      · intro hm
        obtain ⟨q, hq, rfl⟩ := List.mem_map.1 hm
        have hg := (mem_getK h1 q.1 q.2).2 hq
        rw [h2] at hg
        have hc : countO q.1 l ≠ 0 := fun e => by rw [if_pos e] at hg; cases hg
        rw [h.count q.1] at hc
        unfold rowV at hc
        cases hv : getK q.1 V with
        | none => rw [hv] at hc; simp at hc
        | some row => exact List.mem_map.2 ⟨_, (mem_getK h.uniq q.1 row).1 hv, rfl⟩
      · intro hm
        obtain ⟨p, hp, rfl⟩ := List.mem_map.1 hm
        have hg : getK p.1 (cntM l) = some (countO p.1 l : Int) := by rw [h2, if_neg (by have := hpos p hp; omega)]
        exact List.mem_map.2 ⟨_, (mem_getK h1 _ _).1 hg, rfl⟩
  simpa using hp.length_eq
section
variable {W0 w w' : World} {S : List Nat} {t : Nat} {V : PV} {v : Value} {l : List OV}
/-- A kept block turns that isn't the list's. -/
theorem St.set (h : St W0 S t V v l w) {g : Nat} (hS : g ∈ S) (hW : W0.heap.size ≤ g) (hv : v.ownBlock ≠ some g) (hg : w.grownBy w' (some g)) : St W0 S t V v l w' := by
  obtain ⟨F, f1, f2, f3, f4, f5, f6⟩ := h
  have hne : ∀ k, F k → some k ≠ some g := fun k hk e => by
    injection e with e
    subst e
    exact (f5 k hS).2 hk
  refine ⟨F, f1.of fun b hlt hF => hg.block b hlt (hne b hF), fun k hk => ⟨(f2 k hk).1, Nat.lt_of_lt_of_le (f2 k hk).2 hg.size⟩, f3.of hg.size fun q hq => hg.block q (f4 q hq).1 (fun e => hv (hq.trans e)), fun q hq => ⟨Nat.lt_of_lt_of_le (f4 q hq).1 hg.size, (f4 q hq).2⟩, fun s hs => ⟨Nat.lt_of_lt_of_le (f5 s hs).1 hg.size, (f5 s hs).2⟩, belowNew f6 hg hW⟩
theorem St.new (h : St W0 S t V v l w) {g : Nat} (hg : w.heap.size ≤ g) : v.ownBlock ≠ some g := by
  obtain ⟨F, f1, f2, f3, f4, f5, f6⟩ := h
  intro e
  have := (f4 g e).1
  omega
/-- The names of a table rise. -/
theorem St.rise (h : St W0 S t V v l w) (hk : ∀ p ∈ V, p.1.length = 32) : ∀ (j : Nat) (hj : j + 1 < V.length), cmpOf (V[j]'(by omega)).1 V[j + 1].1 < 0 := by
  obtain ⟨F, ⟨g, T, hT, rfl, -⟩, -⟩ := h
  intro j hj
  have hr := MpS.rise hT.out keyedN
  have hj2 : j + 1 < T.length := by simpa [vw] using hj
  have h1 := List.pairwise_iff_getElem.1 hr j (j + 1) (by simpa [nb] using Nat.lt_of_succ_lt hj2) (by simpa [nb] using hj2) (Nat.lt_succ_self j)
  have k1 := hk _ (List.getElem_mem (Nat.lt_of_succ_lt hj))
  have k2 := hk _ (List.getElem_mem hj)
  have h2 := cmpOf_less _ _ k1 k2
  rw [less_before] at h2
  have h3 : bytesBefore ((vw T)[j]'(Nat.lt_of_succ_lt hj)).1 ((vw T)[j + 1]'hj).1 = true := by
    have : eN.lt ((nb T)[j]'(by simpa [nb] using Nat.lt_of_succ_lt hj2)).1 ((nb T)[j + 1]'(by simpa [nb] using hj2)).1 = true := h1
    simpa [nb, vw, lt_eN] using this
  rw [h3] at h2
  exact of_decide_eq_true h2
/-- The names that Names answers, one by one. -/
theorem names_rows {base : Nat} {z : Value} (h : Rw w base TI 32 z (V.map fun p => p.1.map byteV)) : ∃ a zc, z = .slice a V.length zc ∧ (∀ p ∈ V, p.1.length = 32) ∧ ∀ (j : Nat) (hj : j < V.length), ∃ zg, a = some ⟨zg, 0, none⟩ ∧ ∀ w', Below w.heap.size w w' → w'.rangeAt zg (j * 32) (V[j].1.map byteV) := by
  have hall : ∀ p ∈ V, p.1.length = 32 := fun p hp => by
    have := h.1 _ (List.mem_map.2 ⟨p, hp, rfl⟩)
    simpa using this
  have hrd := h.rd
  rcases h.2.2 with ⟨rfl, h0⟩ | ⟨g, cap, cur, rfl, h1, h2, h3⟩
  · have hv : V.length = 0 := by simpa using h0
    exact ⟨none, 0, by rw [hv], hall, fun j hj => by omega⟩
  · refine ⟨_, cap, by rw [List.length_map], hall, fun j hj => ⟨g, rfl, fun w' hb => ?_⟩⟩
    obtain ⟨a', c', e, _, hr⟩ := Rd.below hrd hb
    injection e with e _ _
    obtain ⟨g', off, ha, _, hc⟩ := hr j (by simpa using hj)
    rw [← e] at ha
    injection ha with ha
    injection ha with e1 e2
    subst e1 e2
    intro q u hu
    have := hc q u (by simpa using hu)
    rwa [Nat.zero_add] at this
end
end Go.Proofs.Ytilmidddhkofaaa
