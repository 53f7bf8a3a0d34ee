/-
  The document's Drop, Expire, Get (mathematics).
-/
import Derived.Test.YtilmidddhkofaaaPo0
namespace Go.Proofs.Ytilmidddhkofaaa
open Go.RowKit Go.Maps Crv

def dropO (id : List UInt8) (n : Int) (l : List OV) : List OV := l.filter fun o => !decide (o.1 = id) || !decide (o.2.1 = n)
theorem clean_full {V : PV} : ∀ p ∈ cleanV V, p.2.isEmpty = false := fun p hp => by
  have := (List.mem_filter.1 hp).2
  simpa using this
theorem Same.drop {l : List OV} {V : PV} (h : Same l V) (id : List UInt8) (n : Int) (hu' : Uniq (dropV id [n] V)) (hi' : ∀ p ∈ dropV id [n] V, Uniq p.2) : Same (dropO id n l) (dropV id [n] V) := by
  refine ⟨?_, hu', hi', clean_full, fun o ho => h.addr o (List.mem_filter.1 ho).1⟩
  unfold dropV
  rw [flat_clean]
  have hp := h.perm.filter (fun o : OV => !decide (o.1 = id) || !decide (o.2.1 = n))
  refine hp.trans ?_
  cases hq : getK id V with
  | none =>
    simp only
    rw [List.filter_eq_self.2]
    intro o ho
    obtain ⟨p, hp, h1, _⟩ := mem_flat.1 ho
    have : o.1 ≠ id := fun e => (getK_none id).1 hq p hp (h1.trans e)
    simp [this]
  | some row =>
    simp only
    obtain ⟨f1, f2⟩ := flat_split (row' := dels [n] row) h.uniq hq
    refine (f1.filter _).trans (List.Perm.trans ?_ f2.symm)
    rw [List.filter_append]
    have e1 : (row.map fun q => (id, q.1, q.2)).filter (fun o : OV => !decide (o.1 = id) || !decide (o.2.1 = n)) = (dels [n] row).map fun q => (id, q.1, q.2) := by
      rw [List.filter_map]
      congr 1
      show _ = delK n row
      unfold delK
      refine List.filter_congr fun q _ => ?_
      simp [Function.comp]
    have e2 : (flatV (delK id V)).filter (fun o : OV => !decide (o.1 = id) || !decide (o.2.1 = n)) = flatV (delK id V) := by
      rw [List.filter_eq_self]
      intro o ho
      obtain ⟨p, hp, h1, _⟩ := mem_flat.1 ho
      have := (List.mem_filter.1 hp).2
      have hne : o.1 ≠ id := by rw [← h1]; simpa using this
      simp [hne]
    rw [e1, e2]
def expO (now : Int) (l : List OV) : List OV := l.filter fun o => decide (now < o.2.2)
theorem flat_exp (now : Int) : ∀ V : PV, flatV (V.map fun p => (p.1, aftA now p.2)) = expO now (flatV V)
  | [] => rfl
  | p :: V => by
    have ih := flat_exp now V
    unfold flatV expO at ih ⊢
    rw [List.map_cons, List.flatMap_cons, List.flatMap_cons, List.filter_append, ih, List.filter_map]
    rfl
theorem Same.expire {l : List OV} {V : PV} (h : Same l V) (now : Int) (hu' : Uniq (expireV now V)) (hi' : ∀ p ∈ expireV now V, Uniq p.2) : Same (expO now l) (expireV now V) := by
  refine ⟨?_, hu', hi', clean_full, fun o ho => h.addr o (List.mem_filter.1 ho).1⟩
  unfold expireV
  rw [flat_clean, flat_exp]
  exact h.perm.filter _
/-- The document's Get: of each address, as often as it is there. -/
def hitO (id : List UInt8) (now n : Int) (o : OV) : Bool := decide (o.1 = id) && decide (o.2.1 = n) && decide (now < o.2.2)
def getO (id : List UInt8) (now : Int) (l : List OV) : Nat → List Int
  | 0 => []
  | m + 1 => getO id now l m ++ (l.filter (hitO id now m)).map fun _ => (m : Int)
theorem hit_one {l : List OV} {V : PV} (h : Same l V) (id : List UInt8) (now n : Int) : (l.filter (hitO id now n)).length = if n ∈ getV id now V then 1 else 0 := by
  have hmem : ∀ o, o ∈ l.filter (hitO id now n) ↔ o.1 = id ∧ o.2.1 = n ∧ now < o.2.2 ∧ getK n (rowV id V) = some o.2.2 := fun o => by
    rw [List.mem_filter, h.mem]
    unfold hitO
    simp only [Bool.and_eq_true, decide_eq_true_eq]
    constructor
    · rintro ⟨h1, ⟨h2, h3⟩, h4⟩
      exact ⟨h2, h3, h4, by rw [← h2, ← h3]; exact h1⟩
    · rintro ⟨h1, h2, h3, h4⟩
      exact ⟨by rw [h1, h2]; exact h4, ⟨h1, h2⟩, h3⟩
  have hnd : (l.filter (hitO id now n)).Nodup := by
    have hf : (flatV V).Nodup := by
      have : ∀ V : PV, Uniq V → (∀ p ∈ V, Uniq p.2) → (flatV V).Nodup := fun V => by
        induction V with
        | nil => intro _ _; exact List.Pairwise.nil
        | cons p r ih =>
          intro hu hi
          obtain ⟨h1, h2⟩ := List.pairwise_cons.1 hu
          unfold flatV at ih ⊢
          rw [List.flatMap_cons, List.nodup_append]
          refine ⟨?_, ih h2 (fun q hq => hi q (by simp [hq])), ?_⟩
          · unfold List.Nodup
            rw [List.pairwise_map]
            exact (hi p (by simp)).imp fun hne e => by injection e with _ e; injection e with e _; exact hne e
          · intro a ha b hb e
            obtain ⟨q, hq, rfl⟩ := List.mem_map.1 ha
            obtain ⟨p', hp', h3, _⟩ := mem_flat (V := r).1 hb
            exact h1 p' hp' (by rw [h3, ← e])
      exact this V h.uniq h.inner
    exact (h.perm.nodup_iff.2 hf).filter _
  have hgv : n ∈ getV id now V ↔ ∃ u, getK n (rowV id V) = some u ∧ now < u := by
    unfold getV rowV
    cases hq : getK id V with
    | none => simp [getK]
    | some row =>
      have hru := h.inner _ ((mem_getK h.uniq id row).1 hq)
      simp only [Option.map_some, Option.getD_some, getA]
      rw [List.mem_map]
      constructor
      · rintro ⟨q, hq2, rfl⟩
        obtain ⟨h1, h2⟩ := List.mem_filter.1 hq2
        exact ⟨q.2, (mem_getK hru q.1 q.2).2 h1, by simpa using h2⟩
      · rintro ⟨u, h1, h2⟩
        exact ⟨(n, u), List.mem_filter.2 ⟨(mem_getK hru n u).1 h1, by simpa using h2⟩, rfl⟩
  by_cases hg : n ∈ getV id now V
  · rw [if_pos hg]
    obtain ⟨u, h1, h2⟩ := hgv.1 hg
    have hp : (l.filter (hitO id now n)).Perm [(id, n, u)] := by
      refine (List.perm_ext_iff_of_nodup hnd (by simp)).2 fun o => ?_
      rw [hmem, List.mem_singleton]
      constructor
      · rintro ⟨e1, e2, _, e4⟩
        rw [h1] at e4
        injection e4 with e4
        exact Prod.ext e1 (Prod.ext e2 e4.symm)
      · rintro rfl
        exact ⟨rfl, rfl, h2, h1⟩
    simpa using hp.length_eq
  · rw [if_neg hg]
    rw [List.length_eq_zero_iff, List.eq_nil_iff_forall_not_mem]
    intro o ho
    obtain ⟨_, _, e3, e4⟩ := (hmem o).1 ho
    exact hg (hgv.2 ⟨o.2.2, e4, e3⟩)
theorem getO_mem {l : List OV} {V : PV} (h : Same l V) (id : List UInt8) (now : Int) : ∀ (m : Nat) (n : Int), n ∈ getO id now l m ↔ 0 ≤ n ∧ n < m ∧ n ∈ getV id now V
  | 0, n => by unfold getO; simp; omega
  | m + 1, n => by
    have ih := getO_mem h id now m n
    have h1 := hit_one h id now (m : Int)
    unfold getO
    rw [List.mem_append, ih, List.mem_map]
    constructor
    · rintro (⟨a, b, c⟩ | ⟨o, ho, rfl⟩)
      · exact ⟨a, by omega, c⟩
      · refine ⟨by omega, by omega, ?_⟩
        apply Classical.byContradiction
        intro hg
        rw [if_neg hg, List.length_eq_zero_iff] at h1
        rw [h1] at ho
        simp at ho
    · rintro ⟨a, b, c⟩
      by_cases hn : n < m
      · exact .inl ⟨a, hn, c⟩
      · right
        have e : n = (m : Int) := by omega
        subst e
        rw [if_pos c] at h1
        cases hl : l.filter (hitO id now (m : Int)) with
        | nil => rw [hl] at h1; simp at h1
        | cons o r => exact ⟨o, by simp, rfl⟩
theorem getO_rise {l : List OV} {V : PV} (h : Same l V) (id : List UInt8) (now : Int) : ∀ m : Nat, (getO id now l m).Pairwise fun a b => a < b
  | 0 => List.Pairwise.nil
  | m + 1 => by
    have ih := getO_rise h id now m
    have h1 := hit_one h id now (m : Int)
    unfold getO
    rw [List.pairwise_append]
    refine ⟨ih, ?_, fun a ha b hb => ?_⟩
    · cases hl : l.filter (hitO id now (m : Int)) with
      | nil => simp
      | cons o r =>
        rw [hl, List.length_cons] at h1
        have : r = [] := by
          rw [← List.length_eq_zero_iff]
          split at h1 <;> omega
        rw [this]
        simp
    · obtain ⟨o, _, rfl⟩ := List.mem_map.1 hb
      exact ((getO_mem h id now m a).1 ha).2.1
theorem Same.get {l : List OV} {V : PV} (h : Same l V) (id : List UInt8) (now : Int) (hr : ∀ p ∈ V, p.2.Pairwise fun p q => eI.lt p.1 q.1 = true) : getO id now l 64 = getV id now V := by
  have h1 := getO_rise h id now 64
  have h2 : (getV id now V).Pairwise fun a b => a < b := by
    unfold getV
    cases hq : getK id V with
    | none => exact List.Pairwise.nil
    | some row => exact getA_rise (hr _ ((mem_getK h.uniq id row).1 hq))
  refine sort_le ?_ (h1.imp fun h => by omega) (h2.imp fun h => by omega)
  refine (List.perm_ext_iff_of_nodup (h1.imp fun h => by omega) (h2.imp fun h => by omega)).2 fun n => ?_
  rw [getO_mem h]
  constructor
  · exact fun q => q.2.2
  · intro hg
    refine ⟨?_, ?_, hg⟩
    all_goals
      have h3 := hit_one h id now n
      rw [if_pos hg] at h3
      cases hl : l.filter (hitO id now n) with
      | nil => rw [hl] at h3; simp at h3
      | cons o r =>
        have hm : o ∈ l.filter (hitO id now n) := by rw [hl]; simp
        obtain ⟨m1, m2⟩ := List.mem_filter.1 hm
        unfold hitO at m2
        simp only [Bool.and_eq_true, decide_eq_true_eq] at m2
        have := h.addr o m1
        rw [← m2.1.2]
        first | exact this.2.1 | exact_mod_cast this.2.2
/-- What memory says of a table's rows. -/
theorem Pv.uq {W : World} {F : Nat → Prop} {t : Nat} {V : PV} (h : Pv W F t V) : Uniq V ∧ (∀ p ∈ V, Uniq p.2) ∧ (∀ p ∈ V, p.2.Pairwise fun p q => eI.lt p.1 q.1 = true) := by
  obtain ⟨g, T, hT, rfl, _⟩ := h
  refine ⟨?_, fun p hp => ?_, fun p hp => ?_⟩
  · have := hT.uniq
    unfold Uniq vw at *
    rw [List.pairwise_map]
    exact this
  · obtain ⟨r, hr, rfl⟩ := List.mem_map.1 hp
    exact (hT.inn r hr).uniq keyedI
  · obtain ⟨r, hr, rfl⟩ := List.mem_map.1 hp
    exact (hT.inn r hr).rise keyedI
end Go.Proofs.Ytilmidddhkofaaa
