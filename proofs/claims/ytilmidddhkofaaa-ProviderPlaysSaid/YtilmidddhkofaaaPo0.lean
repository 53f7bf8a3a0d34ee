/-
  The document's list of providers (mathematics).
-/
import Derived.Test.YtilmidddhkofaaaPLaw1
namespace Go.Proofs.Ytilmidddhkofaaa
open Go.RowKit Go.Maps Crv

/-- Who has a name, until when. -/
abbrev OV : Type := List UInt8 × Int × Int
/-- A table as such a list. -/
def flatV (V : PV) : List OV := V.flatMap fun p => p.2.map fun q => (p.1, q.1, q.2)
/-- A table and the document's list say the same. -/
structure Same (l : List OV) (V : PV) : Prop where
  perm : l.Perm (flatV V)
  uniq : Uniq V
  inner : ∀ p ∈ V, Uniq p.2
  full : ∀ p ∈ V, p.2.isEmpty = false
  addr : ∀ o ∈ l, o.1.length = 32 ∧ 0 ≤ o.2.1 ∧ o.2.1 < 64
theorem mem_flat {V : PV} {o : OV} : o ∈ flatV V ↔ ∃ p ∈ V, p.1 = o.1 ∧ o.2 ∈ p.2 := by
  unfold flatV
  rw [List.mem_flatMap]
  constructor
  · rintro ⟨p, hp, h⟩
    obtain ⟨q, hq, rfl⟩ := List.mem_map.1 h
    exact ⟨p, hp, rfl, hq⟩
  · rintro ⟨p, hp, h1, h2⟩
    exact ⟨p, hp, List.mem_map.2 ⟨o.2, h2, by rw [h1]⟩⟩
def countO (id : List UInt8) (l : List OV) : Nat := l.countP fun o => decide (o.1 = id)
/-- How many unlike names: those that stand first. -/
def firstsO : List OV → List OV → List OV
  | _, [] => []
  | pre, o :: r => if pre.all fun q => !decide (q.1 = o.1) then o :: firstsO (pre ++ [o]) r else firstsO (pre ++ [o]) r
def rowV (id : List UInt8) (V : PV) : List (Int × Int) := (getK id V).getD []
theorem count_flat (id : List UInt8) : ∀ {V : PV}, Uniq V → countO id (flatV V) = (rowV id V).length
  | [], _ => rfl
  | p :: V, hu => by
    obtain ⟨h1, h2⟩ := List.pairwise_cons.1 hu
    have ih := count_flat id h2
    unfold countO flatV rowV at ih ⊢
    rw [List.flatMap_cons, List.countP_append, ih, getK_cons]
    by_cases he : p.1 = id
    · have hn : getK id V = none := (getK_none id).2 fun q hq e => h1 q hq (he.trans e.symm)
      rw [if_pos he, hn]
      simp only [Option.getD_none, Option.getD_some, List.length_nil, Nat.add_zero]
      rw [List.countP_map, List.countP_eq_length.2]
      intro q _
      simp [he]
    · rw [if_neg he]
      have : (p.2.map fun q => (p.1, q.1, q.2)).countP (fun o : OV => decide (o.1 = id)) = 0 := by
        rw [List.countP_map, List.countP_eq_zero]
        intro q _
        simp [he]
      rw [this, Nat.zero_add]
theorem Same.count {l : List OV} {V : PV} (h : Same l V) (id : List UInt8) : countO id l = (rowV id V).length := by
  rw [← count_flat id h.uniq]
  exact h.perm.countP_eq _
theorem firsts_mem : ∀ (l pre : List OV) (id : List UInt8), id ∈ (firstsO pre l).map (·.1) ↔ (id ∈ l.map (·.1) ∧ id ∉ pre.map (·.1))
  | [], pre, id => by simp [firstsO]
  | o :: r, pre, id => by
    have ih := firsts_mem r (pre ++ [o]) id
    unfold firstsO
    rw [List.map_append, List.map_cons, List.map_nil] at ih
    have hall : (pre.all fun q => !decide (q.1 = o.1)) = true ↔ o.1 ∉ pre.map (·.1) := by
      rw [List.all_eq_true]
      constructor
      · intro h hm
        obtain ⟨q, hq, e⟩ := List.mem_map.1 hm
        have := h q hq
        simp [e] at this
      · intro h q hq
        have : q.1 ≠ o.1 := fun e => h (List.mem_map.2 ⟨q, hq, e⟩)
        simp [this]
    split
    · rename_i h
      rw [List.map_cons, List.mem_cons, ih, List.map_cons, List.mem_cons]
      have h' := hall.1 h
      by_cases he : id = o.1
      · subst he
        simp [h']
      · simp [he]
    · rename_i h
      have h' : o.1 ∈ pre.map (·.1) := Classical.byContradiction fun q => h (hall.2 q)
      rw [ih, List.map_cons, List.mem_cons]
      by_cases he : id = o.1
      · subst he
        simp [h']
      · simp [he]
theorem firsts_nodup : ∀ (l pre : List OV), ((firstsO pre l).map (·.1)).Nodup
  | [], pre => by simp [firstsO]
  | o :: r, pre => by
    have ih := firsts_nodup r (pre ++ [o])
    unfold firstsO
    split
    · rw [List.map_cons, List.nodup_cons]
      refine ⟨fun hm => ?_, ih⟩
      have := (firsts_mem r (pre ++ [o]) o.1).1 hm
      simp at this
    · exact ih
def namesO (l : List OV) : Nat := (firstsO [] l).length
theorem Same.names {l : List OV} {V : PV} (h : Same l V) : namesO l = V.length := by
  have h1 : ((firstsO [] l).map (·.1)).Perm (V.map (·.1)) := by
    refine (List.perm_ext_iff_of_nodup (firsts_nodup l []) ?_).2 fun id => ?_
    · unfold List.Nodup
      rw [List.pairwise_map]
      exact h.uniq
    · rw [firsts_mem]
      simp only [List.map_nil, List.not_mem_nil, not_false_eq_true, and_true]
      constructor
      · intro hm
        obtain ⟨o, ho, rfl⟩ := List.mem_map.1 hm
        obtain ⟨p, hp, e, _⟩ := mem_flat.1 (h.perm.mem_iff.1 ho)
        exact List.mem_map.2 ⟨p, hp, e⟩
      · intro hm
        obtain ⟨p, hp, rfl⟩ := List.mem_map.1 hm
        have hf := h.full p hp
        cases hq : p.2 with
        | nil => rw [hq] at hf; simp at hf
        | cons q r => exact List.mem_map.2 ⟨(p.1, q), h.perm.mem_iff.2 (mem_flat.2 ⟨p, hp, rfl, by rw [hq]; simp⟩), rfl⟩
  have := h1.length_eq
  simpa [namesO] using this
theorem Same.mem {l : List OV} {V : PV} (h : Same l V) (o : OV) : o ∈ l ↔ getK o.2.1 (rowV o.1 V) = some o.2.2 := by
  rw [h.perm.mem_iff, mem_flat]
  unfold rowV
  constructor
  · rintro ⟨p, hp, h1, h2⟩
    rw [← h1, (mem_getK h.uniq p.1 p.2).2 hp]
    exact (mem_getK (h.inner p hp) _ _).2 h2
  · intro hg
    cases hq : getK o.1 V with
    | none => rw [hq] at hg; simp [getK] at hg
    | some row =>
      rw [hq] at hg
      have hm := (mem_getK h.uniq o.1 row).1 hq
      exact ⟨_, hm, rfl, (mem_getK (h.inner _ hm) _ _).1 hg⟩
theorem flat_split {id : List UInt8} {row row' : List (Int × Int)} : ∀ {V : PV}, Uniq V → getK id V = some row → (flatV V).Perm ((row.map fun q => (id, q.1, q.2)) ++ flatV (delK id V)) ∧ (flatV (updK id row' V)).Perm ((row'.map fun q => (id, q.1, q.2)) ++ flatV (delK id V))
  | [], _, h => by simp [getK] at h
  | p :: V, hu, h => by
    obtain ⟨h1, h2⟩ := List.pairwise_cons.1 hu
    rw [getK_cons] at h
    by_cases he : p.1 = id
    · rw [if_pos he] at h
      injection h with h
      have hn : getK id V = none := (getK_none id).2 fun q hq e => h1 q hq (he.trans e.symm)
      have e1 : delK id (p :: V) = V := by
        unfold delK
        rw [List.filter_cons]
        simp only [he, decide_true, Bool.not_true, Bool.false_eq_true, if_false]
        rw [List.filter_eq_self]
        intro q hq
        have := (getK_none id).1 hn q hq
        simp [this]
      have e2 : updK id row' (p :: V) = (p.1, row') :: V := by
        have := updK_none id row' V hn
        unfold updK at this ⊢
        rw [List.map_cons, if_pos he, this]
      rw [e1, e2]
      unfold flatV
      rw [List.flatMap_cons, List.flatMap_cons, he, h]
      exact ⟨.refl _, .refl _⟩
    · rw [if_neg he] at h
      obtain ⟨i1, i2⟩ := flat_split (row' := row') h2 h
      have e1 : delK id (p :: V) = p :: delK id V := by
        unfold delK
        rw [List.filter_cons]
        simp [he]
      have e2 : updK id row' (p :: V) = p :: updK id row' V := by
        unfold updK
        rw [List.map_cons, if_neg he]
      rw [e1, e2]
      have key : ∀ (A B C : List OV), B.Perm (A ++ C) → ((p.2.map fun q => (p.1, q.1, q.2)) ++ B).Perm (A ++ ((p.2.map fun q => (p.1, q.1, q.2)) ++ C)) := fun A B C hp => by
        refine (hp.append_left _).trans ?_
        rw [← List.append_assoc, ← List.append_assoc]
        exact List.perm_append_comm.append_right C
      unfold flatV at i1 i2 ⊢
      rw [List.flatMap_cons, List.flatMap_cons, List.flatMap_cons]
      exact ⟨key _ _ _ i1, key _ _ _ i2⟩
theorem flat_clean : ∀ V : PV, flatV (cleanV V) = flatV V
  | [] => rfl
  | p :: V => by
    have ih := flat_clean V
    unfold cleanV flatV at ih ⊢
    rw [List.filter_cons]
    cases hp : p.2 with
    | nil => simp [hp, ih]
    | cons q r => simp [hp, ih]
theorem set_perm {κ ν : Type} [DecidableEq κ] (e : Enc κ ν) {k : κ} {v w : ν} {l : List (κ × ν)} (hu : Uniq l) (h : getK k l = some v) : l.Perm ((k, v) :: delK k l) ∧ (e.set k w l).Perm ((k, w) :: delK k l) := by
  refine ⟨?_, e.ins_perm (k, w) (delK k l)⟩
  induction l with
  | nil => simp [getK] at h
  | cons p r ih =>
    obtain ⟨h1, h2⟩ := List.pairwise_cons.1 hu
    rw [show getK k (p :: r) = if p.1 = k then some p.2 else getK k r from getK_cons k p.1 p.2 r] at h
    by_cases he : p.1 = k
    · rw [if_pos he] at h
      injection h with h
      have e1 : delK k (p :: r) = r := by
        unfold delK
        rw [List.filter_cons]
        simp only [he, decide_true, Bool.not_true, Bool.false_eq_true, if_false]
        rw [List.filter_eq_self]
        intro q hq
        have : q.1 ≠ k := fun e => h1 q hq (he.trans e.symm)
        simp [this]
      rw [e1, ← he, ← h]
    · rw [if_neg he] at h
      have e1 : delK k (p :: r) = p :: delK k r := by
        unfold delK
        rw [List.filter_cons]
        simp [he]
      rw [e1]
      exact ((ih h2 h).cons p).trans (.swap _ _ _)
theorem new_perm {κ ν : Type} [DecidableEq κ] (e : Enc κ ν) {k : κ} {w : ν} {l : List (κ × ν)} (h : getK k l = none) : (e.set k w l).Perm ((k, w) :: l) := by
  have := e.ins_perm (k, w) (delK k l)
  have hd : delK k l = l := by
    unfold delK
    rw [List.filter_eq_self]
    intro q hq
    have := (getK_none k).1 h q hq
    simp [this]
  rw [hd] at this
  unfold Enc.set
  rw [hd]
  exact this
theorem set_ne {κ ν : Type} [DecidableEq κ] (e : Enc κ ν) (k : κ) (w : ν) (l : List (κ × ν)) : (e.set k w l).isEmpty = false := by
  have := (e.ins_perm (k, w) (delK k l)).length_eq
  unfold Enc.set
  cases h : e.ins (k, w) (delK k l) with
  | nil => rw [h] at this; simp at this
  | cons p r => rfl
theorem erase_perm {α : Type} : ∀ (l : List α) (i : Nat) (h : i < l.length), l.Perm (l[i] :: l.eraseIdx i)
  | a :: l, 0, _ => by simp
  | a :: l, i + 1, h => by
    have ih := erase_perm l i (by simpa using h)
    simp only [List.getElem_cons_succ, List.eraseIdx_cons_succ]
    exact (ih.cons a).trans (.swap _ _ _)
theorem set_erase_perm {α : Type} (x : α) : ∀ (l : List α) (i : Nat), i < l.length → (l.set i x).Perm (x :: l.eraseIdx i)
  | a :: l, 0, _ => by simp
  | a :: l, i + 1, h => by
    have ih := set_erase_perm x l i (by simpa using h)
    simp only [List.set_cons_succ, List.eraseIdx_cons_succ]
    exact (ih.cons a).trans (.swap _ _ _)
/-- The document's Put. -/
def putO (id : List UInt8) (n u : Int) (l : List OV) : List OV × Int :=
  if n < 0 ∨ 63 < n then (l, 10) else
  match l.findIdx? fun o => decide (o.1 = id) && decide (o.2.1 = n) with
  | some i => (l.set i (id, n, max ((l.getD i ([], 0, 0)).2.2) u), 0)
  | none => if (countO id l = 0 ∧ 64 ≤ namesO l) ∨ 8 ≤ countO id l then (l, 14) else (l ++ [(id, n, max u 0)], 0)
theorem Same.put {l : List OV} {V : PV} (h : Same l V) {id : List UInt8} (hid : id.length = 32) (n u : Int) (hu' : Uniq (putV id n u V).1) (hi' : ∀ p ∈ (putV id n u V).1, Uniq p.2) : Same (putO id n u l).1 (putV id n u V).1 ∧ (putO id n u l).2 = (putV id n u V).2 := by
  have hcn := h.count id
  have hnm := h.names
  unfold putO
  unfold putV at hu' hi' ⊢
  by_cases hb : n < 0 ∨ 64 ≤ n
  · rw [if_pos hb] at hu' hi' ⊢
    rw [if_pos (show n < 0 ∨ 63 < n by omega)]
    exact ⟨h, rfl⟩
  rw [if_neg hb] at hu' hi' ⊢
  rw [if_neg (show ¬ (n < 0 ∨ 63 < n) by omega)]
  cases hf : l.findIdx? fun o => decide (o.1 = id) && decide (o.2.1 = n) with
  | some i =>
    obtain ⟨hil, hpi, _⟩ := List.findIdx?_eq_some_iff_getElem.1 hf
    simp only [Bool.and_eq_true, decide_eq_true_eq] at hpi
    obtain ⟨v, hv⟩ : ∃ v, v = l[i].2.2 := ⟨_, rfl⟩
    have hoi : l[i] = (id, n, v) := by
      rw [hv, ← hpi.1, ← hpi.2]
    have hom := (h.mem (id, n, v)).1 (by rw [← hoi]; exact List.getElem_mem hil)
    have hgd : (l.getD i ([], 0, 0)).2.2 = v := by rw [List.getD_eq_getElem?_getD, List.getElem?_eq_getElem hil, hoi]; rfl
    unfold rowV at hom
    cases hq : getK id V with
    | none => rw [hq] at hom; simp [getK] at hom
    | some row =>
      rw [hq] at hom hu' hi'
      simp only [Option.getD_some] at hom
      simp only [hom, Option.isSome_some, Bool.true_eq_false, false_and, if_false, Option.getD_some] at hu' hi' ⊢
      rw [hgd]
      have hrow := (mem_getK h.uniq id row).1 hq
      have hru := h.inner _ hrow
      obtain ⟨f1, f2⟩ := flat_split (row' := eI.set n (max v u) row) h.uniq hq
      obtain ⟨s1, s2⟩ := set_perm eI (w := max v u) hru hom
      refine ⟨⟨?_, hu', hi', fun p hp => ?_, fun o ho => ?_⟩, trivial⟩
      · have g1 : l.Perm ((id, n, v) :: l.eraseIdx i) := by
          rw [← hoi]
          exact erase_perm l i hil
        have g2 : (l.set i (id, n, max v u)).Perm ((id, n, max v u) :: l.eraseIdx i) := by
          exact set_erase_perm _ l i hil
        have g3 : (l.eraseIdx i).Perm (((delK n row).map fun q => (id, q.1, q.2)) ++ flatV (delK id V)) := by
          have := (g1.symm.trans h.perm).trans (f1.trans ((s1.map fun q => (id, q.1, q.2)).append_right _))
          exact List.Perm.cons_inv this
        refine g2.trans ((g3.cons _).trans ?_)
        exact (f2.trans ((s2.map fun q => (id, q.1, q.2)).append_right _)).symm
      · obtain ⟨q, hq2, rfl⟩ := List.mem_map.1 hp
        split
        · exact set_ne eI _ _ _
        · exact h.full q hq2
      · rcases List.mem_or_eq_of_mem_set ho with h1 | rfl
        · exact h.addr o h1
        · exact ⟨hid, by simp only; omega, by simp only; omega⟩
  | none =>
    simp only
    have hno : ∀ v, (id, n, v) ∉ l := fun v hm => by
      have := List.findIdx?_eq_none_iff.1 hf (id, n, v) hm
      simp at this
    have hgn : getK n (rowV id V) = none := by
      cases hq : getK n (rowV id V) with
      | none => rfl
      | some v => exact absurd ((h.mem (id, n, v)).2 hq) (hno v)
    rw [hcn, hnm]
    unfold rowV at hgn ⊢
    have hadd : ∀ o ∈ l ++ [(id, n, max u 0)], o.1.length = 32 ∧ 0 ≤ o.2.1 ∧ o.2.1 < 64 := fun o ho => by
      rcases List.mem_append.1 ho with h1 | h1
      · exact h.addr o h1
      · have : o = (id, n, max u 0) := by simpa using h1
        rw [this]
        exact ⟨hid, by simp only; omega, by simp only; omega⟩
    cases hq : getK id V with
    | none =>
      rw [hq] at hu' hi'
      simp only [Option.getD_none, List.length_nil, true_and] at hu' hi' ⊢
      by_cases h64 : 64 ≤ V.length
      · rw [if_pos (Or.inl h64)]
        rw [if_pos h64] at hu' hi' ⊢
        exact ⟨h, rfl⟩
      · rw [if_neg (by omega)]
        rw [if_neg h64] at hu' hi' ⊢
        refine ⟨⟨?_, hu', hi', fun p hp => ?_, hadd⟩, rfl⟩
        · have g1 := (new_perm eV (k := id) (w := [(n, max 0 u)]) hq)
          have g2 : (flatV (eV.set id [(n, max 0 u)] V)).Perm ((id, n, max 0 u) :: flatV V) := by
            have := g1.flatMap_right (fun p : List UInt8 × List (Int × Int) => p.2.map fun q => (p.1, q.1, q.2))
            exact this
          rw [Int.max_comm u 0]
          exact List.perm_append_comm.trans ((h.perm.cons _).trans g2.symm)
        · rcases List.mem_cons.1 ((new_perm eV (k := id) (w := [(n, max 0 u)]) hq).mem_iff.1 hp) with rfl | h1
          · rfl
          · exact h.full p h1
    | some row =>
      rw [hq] at hgn hu' hi'
      simp only [Option.getD_some] at hgn
      have hrow := (mem_getK h.uniq id row).1 hq
      have hne : row.length ≠ 0 := by
        have := h.full _ hrow
        intro e
        rw [List.length_eq_zero_iff.1 e] at this
        simp at this
      simp only [hgn, Option.isSome_none, true_and, Option.getD_some, Option.getD_none] at hu' hi' ⊢
      by_cases h8 : 8 ≤ row.length
      · rw [if_pos (Or.inr h8)]
        rw [if_pos h8] at hu' hi' ⊢
        exact ⟨h, rfl⟩
      · rw [if_neg (by omega)]
        rw [if_neg h8] at hu' hi' ⊢
        obtain ⟨f1, f2⟩ := flat_split (row' := eI.set n (max 0 u) row) h.uniq hq
        refine ⟨⟨?_, hu', hi', fun p hp => ?_, hadd⟩, rfl⟩
        · have g1 := (new_perm eI (k := n) (w := max 0 u) hgn).map (fun q : Int × Int => (id, q.1, q.2))
          rw [Int.max_comm u 0]
          refine List.perm_append_comm.trans ((h.perm.cons _).trans ?_)
          refine ((f1.cons (id, n, max 0 u)).trans ?_)
          exact (f2.trans (g1.append_right _)).symm
        · obtain ⟨q, hq2, rfl⟩ := List.mem_map.1 hp
          split
          · exact set_ne eI _ _ _
          · exact h.full q hq2
end Go.Proofs.Ytilmidddhkofaaa
