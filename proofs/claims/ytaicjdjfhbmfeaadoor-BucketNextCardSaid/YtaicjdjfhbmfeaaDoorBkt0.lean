/-
  Buckets (layer 19): the mathematics of a table.
-/
import Derived.Test.YtaicjdjfhbmfeaaDoorOid5
import Derived.Test.YtaicjdjfhbmfeaaDoorOid8
import Derived.Test.YtaicjdjfhbmfeaaDoorOid11
namespace Go.Proofs.YtaicjdjfhbmfeaaDoor
open Go.RowKit Crv

/-- The name of an address. -/
def idN (n : Int) : List UInt8 := sha ([99, 114, 118] ++ headOf 4 1 ++ [UInt8.ofNat (n % 256).toNat])
theorem length_idN (n : Int) : (idN n).length = 32 := rfl
/-- A table: its address, its name, who is known and who waits in each row. -/
structure BS where
  own : Int
  a : List UInt8
  K : Nat → List Int
  Q : Nat → List Int
/-- The row of an address. -/
def rowB (x : BS) (n : Int) : Nat := sharedOf x.a (idN n)
theorem rowB_le (x : BS) (n : Int) : rowB x n ≤ 256 := shared_le _ _
def updL (f : Nat → List Int) (k : Nat) (l : List Int) : Nat → List Int := fun j => if j = k then l else f j
theorem updL_same (f : Nat → List Int) (k : Nat) (l : List Int) : updL f k l k = l := by simp [updL]
theorem updL_other (f : Nat → List Int) {k j : Nat} (l : List Int) (h : j ≠ k) : updL f k l j = f j := by simp [updL, h]
def heardB (K Q : List Int) (n : Int) : List Int × List Int × Option Int :=
  if n ∈ K then (K.eraseIdx (K.idxOf n) ++ [n], if K.idxOf n = 0 then [] else Q, none)
  else if K.length < 4 then (K ++ [n], Q, none)
  else if Q.length = 0 then (K, [n], some (K.getD 0 0))
  else (K, Q, none)
def goneB (K Q : List Int) (n : Int) : List Int × List Int × Bool := if n ∈ K then (K.eraseIdx (K.idxOf n) ++ Q, [], true) else (K, Q, false)
/-- May it be another's address? -/
def okA (own n : Int) : Prop := n ≠ own ∧ 0 ≤ n ∧ n < 64
instance (own n : Int) : Decidable (okA own n) := by unfold okA; infer_instance
def putB (x : BS) (k : Nat) (K Q : List Int) : BS := { x with K := updL x.K k K, Q := updL x.Q k Q }
def heardT (x : BS) (n : Int) : BS × Option Int :=
  if okA x.own n then (putB x (rowB x n) (heardB (x.K (rowB x n)) (x.Q (rowB x n)) n).1 (heardB (x.K (rowB x n)) (x.Q (rowB x n)) n).2.1, (heardB (x.K (rowB x n)) (x.Q (rowB x n)) n).2.2)
  else (x, none)
def goneT (x : BS) (n : Int) : BS × Bool :=
  (putB x (rowB x n) (goneB (x.K (rowB x n)) (x.Q (rowB x n)) n).1 (goneB (x.K (rowB x n)) (x.Q (rowB x n)) n).2.1, (goneB (x.K (rowB x n)) (x.Q (rowB x n)) n).2.2)
def knowsT (x : BS) (n : Int) : Bool := decide (n ∈ x.K (rowB x n))
/-- All that are known, row by row. -/
def allB (x : BS) (m : Nat) : List Int := (List.range m).flatMap x.K
def newT (own : Int) : BS := ⟨own, idN own, fun _ => [], fun _ => []⟩
/-- What holds of each table. -/
structure Inv (x : BS) : Prop where
  a : x.a = idN x.own
  k4 : ∀ k, (x.K k).length ≤ 4
  q1 : ∀ k, (x.Q k).length ≤ 1
  nd : ∀ k, (x.K k).Nodup
  kin : ∀ k n, n ∈ x.K k → rowB x n = k ∧ okA x.own n
  qin : ∀ k n, n ∈ x.Q k → rowB x n = k ∧ okA x.own n ∧ n ∉ x.K k
  qk : ∀ k, x.Q k ≠ [] → 4 ≤ (x.K k).length
variable {x : BS}
theorem Inv.new (own : Int) : Inv (newT own) := ⟨rfl, by simp [newT], by simp [newT], by simp [newT], by simp [newT], by simp [newT], by simp [newT]⟩
theorem Inv.own (h : Inv x) : rowB x x.own = 256 := by
  unfold rowB
  rw [← h.a]
  exact sharedOf_all _ _ (fun _ _ => rfl)
theorem erase_idxOf (l : List Int) (n : Int) : l.eraseIdx (l.idxOf n) = l.erase n := by rw [List.erase_eq_eraseIdx_of_idxOf rfl]
theorem Inv.put (h : Inv x) {k : Nat} {K Q : List Int} (h4 : K.length ≤ 4) (h1 : Q.length ≤ 1) (hn : K.Nodup) (hk : ∀ n ∈ K, rowB x n = k ∧ okA x.own n) (hq : ∀ n ∈ Q, rowB x n = k ∧ okA x.own n ∧ n ∉ K) (hqk : Q ≠ [] → 4 ≤ K.length) : Inv (putB x k K Q) := by
  refine ⟨h.a, fun j => ?_, fun j => ?_, fun j => ?_, fun j n hj => ?_, fun j n hj => ?_, fun j hj => ?_⟩ <;> by_cases e : j = k
  all_goals (try subst e)
  · simpa [putB, updL_same] using h4
  · simpa [putB, updL_other _ _ e] using h.k4 j
  · simpa [putB, updL_same] using h1
  · simpa [putB, updL_other _ _ e] using h.q1 j
  · simpa [putB, updL_same] using hn
  · simpa [putB, updL_other _ _ e] using h.nd j
  · simp only [putB, updL_same] at hj
    exact hk n hj
  · simp only [putB, updL_other _ _ e] at hj
    exact h.kin j n hj
  · simp only [putB, updL_same] at hj ⊢
    exact hq n hj
  · simp only [putB, updL_other _ _ e] at hj ⊢
    exact h.qin j n hj
  · simp only [putB, updL_same] at hj ⊢
    exact hqk hj
  · simp only [putB, updL_other _ _ e] at hj ⊢
    exact h.qk j hj
theorem len_erase (l : List Int) (n : Int) (h : n ∈ l) : (l.erase n).length + 1 = l.length := by
  have := List.length_erase_of_mem h
  have h2 : 0 < l.length := List.length_pos_of_mem h
  omega
theorem nodup_snoc {l : List Int} {n : Int} (h : l.Nodup) (hn : n ∉ l) : (l ++ [n]).Nodup := by
  rw [List.nodup_append]
  exact ⟨h, by simp, fun a ha b hb => by simp at hb; subst hb; exact fun e => hn (e ▸ ha)⟩
theorem Inv.heard (h : Inv x) (n : Int) : Inv (heardT x n).1 := by
  unfold heardT
  split
  case isFalse => exact h
  rename_i ok
  have hk4 := h.k4 (rowB x n)
  have hq1 := h.q1 (rowB x n)
  have hnd := h.nd (rowB x n)
  have hkin := h.kin (rowB x n)
  have hqin := h.qin (rowB x n)
  have hqk := h.qk (rowB x n)
  unfold heardB
  by_cases hm : n ∈ x.K (rowB x n)
  · simp only [if_pos hm, erase_idxOf]
    have hl := len_erase _ _ hm
    have hne : n ∉ (x.K (rowB x n)).erase n := hnd.not_mem_erase
    refine h.put (by simp; omega) (by split <;> simp [hq1]) (nodup_snoc (hnd.erase n) hne) (fun m hmm => ?_) (fun m hmm => ?_) (fun hq => ?_)
    · simp only [List.mem_append, List.mem_singleton] at hmm
      rcases hmm with hmm | rfl
      · exact hkin m (List.mem_of_mem_erase hmm)
      · exact ⟨rfl, ok⟩
    · have hq : m ∈ x.Q (rowB x n) := by
        split at hmm
        · simp at hmm
        · exact hmm
      obtain ⟨h1, h2, h3⟩ := hqin m hq
      refine ⟨h1, h2, fun hmk => ?_⟩
      simp only [List.mem_append, List.mem_singleton] at hmk
      rcases hmk with hmk | rfl
      · exact h3 (List.mem_of_mem_erase hmk)
      · exact h3 hm
    · have := hqk (fun e => hq (by rw [e]; split <;> rfl))
      simp
      omega
  · simp only [if_neg hm]
    split
    · rename_i hlt
      have hq0 : x.Q (rowB x n) = [] := Classical.byContradiction fun e => by have := hqk e; omega
      rw [hq0]
      refine h.put (by simp; omega) (by simp) (nodup_snoc hnd hm) (fun m hmm => ?_) (fun m hmm => by simp at hmm) (fun e => absurd rfl e)
      simp only [List.mem_append, List.mem_singleton] at hmm
      rcases hmm with hmm | rfl
      · exact hkin m hmm
      · exact ⟨rfl, ok⟩
    · split
      · refine h.put hk4 (by simp) hnd hkin (fun m hmm => ?_) (fun _ => by simp only; omega)
        simp only [List.mem_singleton] at hmm
        subst hmm
        exact ⟨rfl, ok, hm⟩
      · exact h.put hk4 hq1 hnd hkin hqin hqk
theorem Inv.gone (h : Inv x) (n : Int) : Inv (goneT x n).1 := by
  unfold goneT goneB
  have hk4 := h.k4 (rowB x n)
  have hq1 := h.q1 (rowB x n)
  have hnd := h.nd (rowB x n)
  have hkin := h.kin (rowB x n)
  have hqin := h.qin (rowB x n)
  by_cases hm : n ∈ x.K (rowB x n)
  · simp only [if_pos hm, erase_idxOf]
    have hl := len_erase _ _ hm
    refine h.put (by simp; omega) (by simp) ?_ (fun m hmm => ?_) (fun m hmm => by simp at hmm) (fun e => absurd rfl e)
    · rw [List.nodup_append]
      refine ⟨hnd.erase n, ?_, fun a ha b hb e => ?_⟩
      · generalize hQ : x.Q (rowB x n) = Q at hq1
        match Q, hq1 with
        | [], _ => simp
        | [_], _ => simp
      · subst e
        exact (hqin a hb).2.2 (List.mem_of_mem_erase ha)
    · simp only [List.mem_append] at hmm
      rcases hmm with hmm | hmm
      · exact hkin m (List.mem_of_mem_erase hmm)
      · exact ⟨(hqin m hmm).1, (hqin m hmm).2.1⟩
  · simp only [if_neg hm]
    exact h.put hk4 hq1 hnd hkin hqin (h.qk _)
theorem mem_allB (h : Inv x) (m : Nat) (n : Int) : n ∈ allB x m ↔ rowB x n < m ∧ n ∈ x.K (rowB x n) := by
  unfold allB
  rw [List.mem_flatMap]
  constructor
  · rintro ⟨k, hk, hn⟩
    have := (h.kin k n hn).1
    subst this
    exact ⟨by simpa using hk, hn⟩
  · rintro ⟨hk, hn⟩
    exact ⟨_, by simpa using hk, hn⟩
theorem allB_succ (x : BS) (m : Nat) : allB x (m + 1) = allB x m ++ x.K m := by simp [allB, List.range_succ]
theorem mem_all (h : Inv x) (n : Int) : n ∈ allB x 257 ↔ n ∈ x.K (rowB x n) := by
  rw [mem_allB h]
  exact ⟨fun e => e.2, fun e => ⟨by have := rowB_le x n; omega, e⟩⟩
theorem nodup_allB (h : Inv x) (m : Nat) : (allB x m).Nodup := by
  induction m with
  | zero => simp [allB]
  | succ m ih =>
    rw [allB_succ, List.nodup_append]
    refine ⟨ih, h.nd m, fun a ha b hb e => ?_⟩
    subst e
    have h1 := ((mem_allB h m a).1 ha).1
    have h2 := (h.kin m a hb).1
    omega
theorem count_allB (h : Inv x) (k m : Nat) : ((allB x m).filter fun n => rowB x n = k).length ≤ 4 := by
  have key : ∀ j, ((x.K j).filter fun n => decide (rowB x n = k)) = if j = k then x.K k else [] := fun j => by
    by_cases e : j = k
    · subst e
      rw [if_pos rfl, List.filter_eq_self]
      exact fun n hn => by simpa using (h.kin j n hn).1
    · rw [if_neg e, List.filter_eq_nil_iff]
      exact fun n hn => by have := (h.kin j n hn).1; simp; omega
  have : ∀ m, ((allB x m).filter fun n => decide (rowB x n = k)).length ≤ if k < m then (x.K k).length else 0 := by
    intro m
    induction m with
    | zero => simp [allB]
    | succ m ih =>
      rw [allB_succ, List.filter_append, List.length_append, key]
      by_cases e : m = k
      · subst e
        rw [if_neg (Nat.lt_irrefl _)] at ih
        rw [if_pos rfl, if_pos (Nat.lt_succ_self _)]
        omega
      · rw [if_neg e]
        by_cases h2 : k < m
        · rw [if_pos h2] at ih
          rw [if_pos (by omega)]
          simpa using ih
        · rw [if_neg h2] at ih
          rw [if_neg (by omega)]
          simpa using ih
  have h4 := h.k4 k
  have := this m
  split at this <;> omega
/-- Behind a step that puts one row anew, so many more are known. -/
theorem len_put (x : BS) (k : Nat) (K Q : List Int) (m : Nat) (hk : k < m) : (allB (putB x k K Q) m).length + (x.K k).length = (allB x m).length + K.length := by
  induction m with
  | zero => omega
  | succ m ih =>
    rw [allB_succ, allB_succ, List.length_append, List.length_append]
    by_cases e : m = k
    · subst e
      have hs : allB (putB x m K Q) m = allB x m := by
        unfold allB
        rw [List.flatMap_def, List.flatMap_def]
        congr 1
        refine List.map_congr_left fun j hj => ?_
        have : j < m := by simpa using hj
        simp [putB, updL_other _ _ (show j ≠ m by omega)]
      rw [hs]
      simp only [putB, updL_same]
      omega
    · have := ih (by omega)
      have h2 : (putB x k K Q).K m = x.K m := by simp [putB, updL_other _ _ e]
      rw [h2]
      omega
end Go.Proofs.YtaicjdjfhbmfeaaDoor
