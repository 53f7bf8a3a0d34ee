/-
  Several texts in one: their sentences stand at their heads.
-/
import Derived.Test.YtaicjdjfhbmfeaaDoorOid5
import Derived.Test.YtaicjdjfhbmfeaaDoorOid8
import Derived.Test.YtaicjdjfhbmfeaaDoorOid11
import Derived.Test.YtaicjdjfhbmfeaaDoorBktA
import Derived.Lib.SliceRun
/-
  Buckets (layer 19): the mathematics of a table.
-/
namespace Go.Proofs.YtaicjdjfhbmfeaaDoor
open Go.RowKit Crv

/-- The name of an address. -/
def idN (n : Int) : List UInt8 := sha ([99, 114, 118] ++ headOf 4 1 ++ [UInt8.ofNat (n % 256).toNat])
theorem length_idN (n : Int) : (idN n).length = 32 := rfl
/-- A table: its address, its name, who is known and who waits in each row. -/
structure BS where
  own : Int
  a : List UInt8
  K : Nat → List Int
  Q : Nat → List Int
/-- The row of an address. -/
def rowB (x : BS) (n : Int) : Nat := sharedOf x.a (idN n)
theorem rowB_le (x : BS) (n : Int) : rowB x n ≤ 256 := shared_le _ _
def updL (f : Nat → List Int) (k : Nat) (l : List Int) : Nat → List Int := fun j => if j = k then l else f j
theorem updL_same (f : Nat → List Int) (k : Nat) (l : List Int) : updL f k l k = l := by simp [updL]
theorem updL_other (f : Nat → List Int) {k j : Nat} (l : List Int) (h : j ≠ k) : updL f k l j = f j := by simp [updL, h]
def heardB (K Q : List Int) (n : Int) : List Int × List Int × Option Int :=
  if n ∈ K then (K.eraseIdx (K.idxOf n) ++ [n], if K.idxOf n = 0 then [] else Q, none)
  else if K.length < 4 then (K ++ [n], Q, none)
  else if Q.length = 0 then (K, [n], some (K.getD 0 0))
  else (K, Q, none)
def goneB (K Q : List Int) (n : Int) : List Int × List Int × Bool := if n ∈ K then (K.eraseIdx (K.idxOf n) ++ Q, [], true) else (K, Q, false)
/-- May it be another's address? -/
def okA (own n : Int) : Prop := n ≠ own ∧ 0 ≤ n ∧ n < 64
instance (own n : Int) : Decidable (okA own n) := by unfold okA; infer_instance
def putB (x : BS) (k : Nat) (K Q : List Int) : BS := { x with K := updL x.K k K, Q := updL x.Q k Q }
def heardT (x : BS) (n : Int) : BS × Option Int :=
  if okA x.own n then (putB x (rowB x n) (heardB (x.K (rowB x n)) (x.Q (rowB x n)) n).1 (heardB (x.K (rowB x n)) (x.Q (rowB x n)) n).2.1, (heardB (x.K (rowB x n)) (x.Q (rowB x n)) n).2.2)
  else (x, none)
def goneT (x : BS) (n : Int) : BS × Bool :=
  (putB x (rowB x n) (goneB (x.K (rowB x n)) (x.Q (rowB x n)) n).1 (goneB (x.K (rowB x n)) (x.Q (rowB x n)) n).2.1, (goneB (x.K (rowB x n)) (x.Q (rowB x n)) n).2.2)
def knowsT (x : BS) (n : Int) : Bool := decide (n ∈ x.K (rowB x n))
/-- All that are known, row by row. -/
def allB (x : BS) (m : Nat) : List Int := (List.range m).flatMap x.K
def newT (own : Int) : BS := ⟨own, idN own, fun _ => [], fun _ => []⟩
/-- What holds of each table. -/
structure Inv (x : BS) : Prop where
  a : x.a = idN x.own
  k4 : ∀ k, (x.K k).length ≤ 4
  q1 : ∀ k, (x.Q k).length ≤ 1
  nd : ∀ k, (x.K k).Nodup
  kin : ∀ k n, n ∈ x.K k → rowB x n = k ∧ okA x.own n
  qin : ∀ k n, n ∈ x.Q k → rowB x n = k ∧ okA x.own n ∧ n ∉ x.K k
  qk : ∀ k, x.Q k ≠ [] → 4 ≤ (x.K k).length
variable {x : BS}
theorem Inv.new (own : Int) : Inv (newT own) := ⟨rfl, by simp [newT], by simp [newT], by simp [newT], by simp [newT], by simp [newT], by simp [newT]⟩
theorem Inv.own (h : Inv x) : rowB x x.own = 256 := by
  unfold rowB
  rw [← h.a]
  exact sharedOf_all _ _ (fun _ _ => rfl)
theorem erase_idxOf (l : List Int) (n : Int) : l.eraseIdx (l.idxOf n) = l.erase n := by rw [List.erase_eq_eraseIdx_of_idxOf rfl]
theorem Inv.put (h : Inv x) {k : Nat} {K Q : List Int} (h4 : K.length ≤ 4) (h1 : Q.length ≤ 1) (hn : K.Nodup) (hk : ∀ n ∈ K, rowB x n = k ∧ okA x.own n) (hq : ∀ n ∈ Q, rowB x n = k ∧ okA x.own n ∧ n ∉ K) (hqk : Q ≠ [] → 4 ≤ K.length) : Inv (putB x k K Q) := by
  refine ⟨h.a, fun j => ?_, fun j => ?_, fun j => ?_, fun j n hj => ?_, fun j n hj => ?_, fun j hj => ?_⟩ <;> by_cases e : j = k
  all_goals (try subst e)
  · simpa [putB, updL_same] using h4
  · simpa [putB, updL_other _ _ e] using h.k4 j
  · simpa [putB, updL_same] using h1
  · simpa [putB, updL_other _ _ e] using h.q1 j
  · simpa [putB, updL_same] using hn
  · simpa [putB, updL_other _ _ e] using h.nd j
  · simp only [putB, updL_same] at hj
    exact hk n hj
  · simp only [putB, updL_other _ _ e] at hj
    exact h.kin j n hj
  · simp only [putB, updL_same] at hj ⊢
    exact hq n hj
  · simp only [putB, updL_other _ _ e] at hj ⊢
    exact h.qin j n hj
  · simp only [putB, updL_same] at hj ⊢
    exact hqk hj
  · simp only [putB, updL_other _ _ e] at hj ⊢
    exact h.qk j hj
theorem len_erase (l : List Int) (n : Int) (h : n ∈ l) : (l.erase n).length + 1 = l.length := by
  have := List.length_erase_of_mem h
  have h2 : 0 < l.length := List.length_pos_of_mem h
  omega
theorem nodup_snoc {l : List Int} {n : Int} (h : l.Nodup) (hn : n ∉ l) : (l ++ [n]).Nodup := by
  rw [List.nodup_append]
  exact ⟨h, by simp, fun a ha b hb => by simp at hb; subst hb; exact fun e => hn (e ▸ ha)⟩
theorem Inv.heard (h : Inv x) (n : Int) : Inv (heardT x n).1 := by
  unfold heardT
  split
  case isFalse => exact h
  rename_i ok
  have hk4 := h.k4 (rowB x n)
  have hq1 := h.q1 (rowB x n)
  have hnd := h.nd (rowB x n)
  have hkin := h.kin (rowB x n)
  have hqin := h.qin (rowB x n)
  have hqk := h.qk (rowB x n)
  unfold heardB
  by_cases hm : n ∈ x.K (rowB x n)
  · simp only [if_pos hm, erase_idxOf]
    have hl := len_erase _ _ hm
    have hne : n ∉ (x.K (rowB x n)).erase n := hnd.not_mem_erase
    refine h.put (by simp; omega) (by split <;> simp [hq1]) (nodup_snoc (hnd.erase n) hne) (fun m hmm => ?_) (fun m hmm => ?_) (fun hq => ?_)
    · simp only [List.mem_append, List.mem_singleton] at hmm
      rcases hmm with hmm | rfl
      · exact hkin m (List.mem_of_mem_erase hmm)
      · exact ⟨rfl, ok⟩
    · have hq : m ∈ x.Q (rowB x n) := by
        split at hmm
        · simp at hmm
        · exact hmm
      obtain ⟨h1, h2, h3⟩ := hqin m hq
      refine ⟨h1, h2, fun hmk => ?_⟩
      simp only [List.mem_append, List.mem_singleton] at hmk
      rcases hmk with hmk | rfl
      · exact h3 (List.mem_of_mem_erase hmk)
      · exact h3 hm
    · have := hqk (fun e => hq (by rw [e]; split <;> rfl))
      simp
      omega
  · simp only [if_neg hm]
    split
    · rename_i hlt
      have hq0 : x.Q (rowB x n) = [] := Classical.byContradiction fun e => by have := hqk e; omega
      rw [hq0]
      refine h.put (by simp; omega) (by simp) (nodup_snoc hnd hm) (fun m hmm => ?_) (fun m hmm => by simp at hmm) (fun e => absurd rfl e)
      simp only [List.mem_append, List.mem_singleton] at hmm
      rcases hmm with hmm | rfl
      · exact hkin m hmm
      · exact ⟨rfl, ok⟩
    · split
      · refine h.put hk4 (by simp) hnd hkin (fun m hmm => ?_) (fun _ => by simp only; omega)
        simp only [List.mem_singleton] at hmm
        subst hmm
        exact ⟨rfl, ok, hm⟩
      · exact h.put hk4 hq1 hnd hkin hqin hqk
theorem Inv.gone (h : Inv x) (n : Int) : Inv (goneT x n).1 := by
  unfold goneT goneB
  have hk4 := h.k4 (rowB x n)
  have hq1 := h.q1 (rowB x n)
  have hnd := h.nd (rowB x n)
  have hkin := h.kin (rowB x n)
  have hqin := h.qin (rowB x n)
  by_cases hm : n ∈ x.K (rowB x n)
  · simp only [if_pos hm, erase_idxOf]
    have hl := len_erase _ _ hm
    refine h.put (by simp; omega) (by simp) ?_ (fun m hmm => ?_) (fun m hmm => by simp at hmm) (fun e => absurd rfl e)
    · rw [List.nodup_append]
      refine ⟨hnd.erase n, ?_, fun a ha b hb e => ?_⟩
      · generalize hQ : x.Q (rowB x n) = Q at hq1
        match Q, hq1 with
        | [], _ => simp
        | [_], _ => simp
      · subst e
        exact (hqin a hb).2.2 (List.mem_of_mem_erase ha)
    · simp only [List.mem_append] at hmm
      rcases hmm with hmm | hmm
      · exact hkin m (List.mem_of_mem_erase hmm)
      · exact ⟨(hqin m hmm).1, (hqin m hmm).2.1⟩
  · simp only [if_neg hm]
    exact h.put hk4 hq1 hnd hkin hqin (h.qk _)
theorem mem_allB (h : Inv x) (m : Nat) (n : Int) : n ∈ allB x m ↔ rowB x n < m ∧ n ∈ x.K (rowB x n) := by
  unfold allB
  rw [List.mem_flatMap]
  constructor
  · rintro ⟨k, hk, hn⟩
    have := (h.kin k n hn).1
    subst this
    exact ⟨by simpa using hk, hn⟩
  · rintro ⟨hk, hn⟩
    exact ⟨_, by simpa using hk, hn⟩
theorem allB_succ (x : BS) (m : Nat) : allB x (m + 1) = allB x m ++ x.K m := by simp [allB, List.range_succ]
theorem mem_all (h : Inv x) (n : Int) : n ∈ allB x 257 ↔ n ∈ x.K (rowB x n) := by
  rw [mem_allB h]
  exact ⟨fun e => e.2, fun e => ⟨by have := rowB_le x n; omega, e⟩⟩
theorem nodup_allB (h : Inv x) (m : Nat) : (allB x m).Nodup := by
  induction m with
  | zero => simp [allB]
  | succ m ih =>
    rw [allB_succ, List.nodup_append]
    refine ⟨ih, h.nd m, fun a ha b hb e => ?_⟩
    subst e
    have h1 := ((mem_allB h m a).1 ha).1
    have h2 := (h.kin m a hb).1
    omega
theorem count_allB (h : Inv x) (k m : Nat) : ((allB x m).filter fun n => rowB x n = k).length ≤ 4 := by
  have key : ∀ j, ((x.K j).filter fun n => decide (rowB x n = k)) = if j = k then x.K k else [] := fun j => by
    by_cases e : j = k
    · subst e
      rw [if_pos rfl, List.filter_eq_self]
      exact fun n hn => by simpa using (h.kin j n hn).1
    · rw [if_neg e, List.filter_eq_nil_iff]
      exact fun n hn => by have := (h.kin j n hn).1; simp; omega
  have : ∀ m, ((allB x m).filter fun n => decide (rowB x n = k)).length ≤ if k < m then (x.K k).length else 0 := by
    intro m
    induction m with
    | zero => simp [allB]
    | succ m ih =>
      rw [allB_succ, List.filter_append, List.length_append, key]
      by_cases e : m = k
      · subst e
        rw [if_neg (Nat.lt_irrefl _)] at ih
        rw [if_pos rfl, if_pos (Nat.lt_succ_self _)]
        omega
      · rw [if_neg e]
        by_cases h2 : k < m
        · rw [if_pos h2] at ih
          rw [if_pos (by omega)]
          simpa using ih
        · rw [if_neg h2] at ih
          rw [if_neg (by omega)]
          simpa using ih
  have h4 := h.k4 k
  have := this m
  split at this <;> omega
/-- Behind a step that puts one row anew, so many more are known. -/
theorem len_put (x : BS) (k : Nat) (K Q : List Int) (m : Nat) (hk : k < m) : (allB (putB x k K Q) m).length + (x.K k).length = (allB x m).length + K.length := by
  induction m with
  | zero => omega
  | succ m ih =>
    rw [allB_succ, allB_succ, List.length_append, List.length_append]
    by_cases e : m = k
    · subst e
      have hs : allB (putB x m K Q) m = allB x m := by
        unfold allB
        rw [List.flatMap_def, List.flatMap_def]
        congr 1
        refine List.map_congr_left fun j hj => ?_
        have : j < m := by simpa using hj
        simp [putB, updL_other _ _ (show j ≠ m by omega)]
      rw [hs]
      simp only [putB, updL_same]
      omega
    · have := ih (by omega)
      have h2 : (putB x k K Q).K m = x.K m := by simp [putB, updL_other _ _ e]
      rw [h2]
      omega
end Go.Proofs.YtaicjdjfhbmfeaaDoor

/-
  Buckets: who waits comes in; who answers stays (mathematics).
-/
namespace Go.Proofs.YtaicjdjfhbmfeaaDoor
open Go.RowKit Crv

variable {x : BS} {n m : Int}
theorem rowB_put (x : BS) (k : Nat) (K Q : List Int) (n : Int) : rowB (putB x k K Q) n = rowB x n := rfl
theorem heardT_own (x : BS) (n : Int) : (heardT x n).1.own = x.own := by unfold heardT; split <;> rfl
theorem goneT_own (x : BS) (n : Int) : (goneT x n).1.own = x.own := rfl
/-- Who leads to a question. -/
theorem heardT_some (h : Inv x) (he : (heardT x n).2 = some m) : ∃ t, okA x.own n ∧ x.K (rowB x n) = m :: t ∧ t.length = 3 ∧ n ∉ m :: t ∧ (heardT x n).1 = putB x (rowB x n) (m :: t) [n] := by
  unfold heardT at he ⊢
  split at he
  case isFalse => cases he
  rename_i ok
  rw [if_pos ok]
  have h4 := h.k4 (rowB x n)
  generalize hk : x.K (rowB x n) = L at he h4 ⊢
  unfold heardB at he ⊢
  by_cases hm : n ∈ L
  · simp [if_pos hm] at he
  · simp only [if_neg hm] at he ⊢
    split at he
    · cases he
    · rename_i h3
      split at he
      · rename_i h0
        simp only [if_neg h3, if_pos h0]
        match L, he, hm, h3, h4 with
        | a :: t, he, hm, h3, h4 =>
          simp only [List.getD_cons_zero, Option.some.injEq] at he
          subst he
          simp only [List.length_cons] at h3 h4
          exact ⟨t, ok, rfl, by omega, hm, rfl⟩
      · cases he
def noQ (x : BS) : Prop := ∀ k, x.Q k = []
theorem noQ_put (h : noQ x) (k : Nat) (K : List Int) : noQ (putB x k K []) := fun j => by
  by_cases e : j = k
  · subst e; simp [putB, updL_same]
  · simp [putB, updL_other _ _ e, h j]
theorem noQ_put2 (h : noQ x) (k : Nat) (K Q K' : List Int) : noQ (putB (putB x k K Q) k K' []) := fun j => by
  by_cases e : j = k
  · subst e; simp [putB, updL_same]
  · simp [putB, updL_other _ _ e, h j]
theorem noQ_none (h : noQ x) (he : (heardT x n).2 = none) : noQ (heardT x n).1 := by
  unfold heardT at he ⊢
  split
  case isFalse => exact h
  rename_i ok
  rw [if_pos ok] at he
  unfold heardB at he ⊢
  have hq := h (rowB x n)
  rw [hq] at he ⊢
  by_cases hm : n ∈ x.K (rowB x n)
  · simp only [if_pos hm, ite_self]
    exact noQ_put h _ _
  · simp only [if_neg hm] at he ⊢
    split
    · exact noQ_put h _ _
    · rename_i h3
      simp [if_neg h3] at he
theorem K_put (x : BS) (k : Nat) (K Q : List Int) : (putB x k K Q).K k = K := by simp [putB, updL_same]
theorem Q_put (x : BS) (k : Nat) (K Q : List Int) : (putB x k K Q).Q k = Q := by simp [putB, updL_same]
theorem K_put_other (x : BS) {k j : Nat} (K Q : List Int) (h : j ≠ k) : (putB x k K Q).K j = x.K j := by simp [putB, updL_other _ _ h]
theorem idx_head (a : Int) (t : List Int) : (a :: t).idxOf a = 0 := by simp
/-- The one that was asked is gone: who waits comes in. -/
theorem next_step (h : Inv x) (hq : noQ x) (he : (heardT x n).2 = some m) :
    knowsT (heardT x n).1 m = true ∧ knowsT (heardT x n).1 n = false ∧ (goneT (heardT x n).1 m).2 = true ∧ knowsT (goneT (heardT x n).1 m).1 n = true ∧ knowsT (goneT (heardT x n).1 m).1 m = false ∧
      (allB (goneT (heardT x n).1 m).1 257).length = (allB (heardT x n).1 257).length ∧ noQ (goneT (heardT x n).1 m).1 := by
  obtain ⟨t, ok, hK, ht, hn, hy⟩ := heardT_some h he
  have hr : rowB x m = rowB x n := (h.kin (rowB x n) m (by rw [hK]; simp)).1
  have hnd := h.nd (rowB x n)
  rw [hK] at hnd
  have hmt : m ∉ t := (List.nodup_cons.1 hnd).1
  have hmn : m ≠ n := fun e => hn (by rw [e]; simp)
  have hnt : n ∉ t := fun e => hn (by simp [e])
  rw [hy]
  obtain ⟨y, hyy⟩ : ∃ y, y = putB x (rowB x n) (m :: t) [n] := ⟨_, rfl⟩
  have ry : ∀ j, rowB y j = rowB x j := fun j => by rw [hyy]; rfl
  have hyK : y.K (rowB x n) = m :: t := by rw [hyy, K_put]
  have hyQ : y.Q (rowB x n) = [n] := by rw [hyy, Q_put]
  have hg : goneT y m = (putB y (rowB x n) (t ++ [n]) [], true) := by
    unfold goneT goneB
    rw [ry, hr, hyK, hyQ]
    simp
  rw [← hyy, hg]
  refine ⟨?_, ?_, rfl, ?_, ?_, ?_, ?_⟩
  · unfold knowsT
    rw [ry, hr, hyK]
    simp
  · unfold knowsT
    rw [ry, hyK]
    simpa using hn
  · unfold knowsT
    simp only [rowB_put, ry, K_put]
    simp
  · unfold knowsT
    simp only [rowB_put, ry, hr, K_put]
    simp [hmt, hmn]
  · have hl := len_put y (rowB x n) (t ++ [n]) [] 257 (by have := rowB_le x n; omega)
    rw [hyK] at hl
    simp only [List.length_append, List.length_cons, List.length_nil] at hl
    simp only
    omega
  · simp only
    rw [hyy]
    exact noQ_put2 hq _ _ _ _
/-- Heard of, and who is asked answers. -/
def stayT (x : BS) (n : Int) : BS := match (heardT x n).2 with
  | some m => (heardT (heardT x n).1 m).1
  | none => (heardT x n).1
theorem stay_own (x : BS) (n : Int) : (stayT x n).own = x.own := by
  unfold stayT
  split <;> simp [heardT_own]
theorem stay_inv (h : Inv x) (n : Int) : Inv (stayT x n) := by
  unfold stayT
  split
  · exact (h.heard n).heard _
  · exact h.heard n
/-- Who is asked, and answers, goes to the end of his row. -/
theorem stay_some (h : Inv x) (he : (heardT x n).2 = some m) : ∃ t, x.K (rowB x n) = m :: t ∧ n ∉ m :: t ∧ stayT x n = putB (putB x (rowB x n) (m :: t) [n]) (rowB x n) (t ++ [m]) [] := by
  obtain ⟨t, ok, hK, ht, hn, hy⟩ := heardT_some h he
  have hr : rowB x m = rowB x n := (h.kin (rowB x n) m (by rw [hK]; simp)).1
  have okm : okA x.own m := (h.kin (rowB x n) m (by rw [hK]; simp)).2
  refine ⟨t, hK, hn, ?_⟩
  unfold stayT
  rw [he]
  simp only
  rw [hy]
  obtain ⟨y, hyy⟩ : ∃ y, y = putB x (rowB x n) (m :: t) [n] := ⟨_, rfl⟩
  have ry : rowB y m = rowB x n := by rw [hyy]; exact hr
  have hyK : y.K (rowB x n) = m :: t := by rw [hyy, K_put]
  have hyQ : y.Q (rowB x n) = [n] := by rw [hyy, Q_put]
  have ho : y.own = x.own := by rw [hyy]; rfl
  rw [← hyy]
  unfold heardT heardB
  rw [ho, if_pos okm, ry, hyK, hyQ]
  simp
theorem stay_noQ (h : Inv x) (hq : noQ x) (n : Int) : noQ (stayT x n) := by
  cases he : (heardT x n).2 with
  | none =>
    unfold stayT
    rw [he]
    exact noQ_none hq he
  | some m =>
    obtain ⟨t, _, _, hs⟩ := stay_some h he
    rw [hs]
    exact noQ_put2 hq _ _ _ _
theorem rowB_stay (x : BS) (n j : Int) : rowB (stayT x n) j = rowB x j := by
  have h1 : ∀ (x : BS) (n : Int), rowB (heardT x n).1 j = rowB x j := fun x n => by unfold heardT; split <;> rfl
  unfold stayT
  split
  · rw [h1, h1]
  · rw [h1]
/-- Who is known is known behind it; nobody else but n, perhaps; so many more. -/
theorem stay_known (h : Inv x) (n : Int) : (∀ j, j ≠ n → knowsT (stayT x n) j = knowsT x j) ∧ (knowsT x n = true → knowsT (stayT x n) n = true) ∧
    (allB (stayT x n) 257).length = (allB x 257).length + if knowsT (stayT x n) n = true ∧ knowsT x n = false then 1 else 0 := by
  have hlt : rowB x n < 257 := by have := rowB_le x n; omega
  cases he : (heardT x n).2 with
  | some m =>
    obtain ⟨t, hK, hn, hs⟩ := stay_some h he
    have hkn : ∀ j, knowsT (stayT x n) j = knowsT x j := fun j => by
      unfold knowsT
      rw [rowB_stay, hs]
      by_cases e : rowB x j = rowB x n
      · rw [e, K_put, hK]
        simp [or_comm]
      · rw [K_put_other _ _ _ e, K_put_other _ _ _ e]
    refine ⟨fun j _ => hkn j, fun e => by rw [hkn]; exact e, ?_⟩
    rw [if_neg (fun e => by rw [hkn, e.2] at e; cases e.1), hs]
    have h1 := len_put (putB x (rowB x n) (m :: t) [n]) (rowB x n) (t ++ [m]) [] 257 hlt
    have h2 := len_put x (rowB x n) (m :: t) [n] 257 hlt
    rw [K_put] at h1
    rw [hK] at h2
    simp only [List.length_append, List.length_cons, List.length_nil] at h1 h2
    omega
  | none =>
    have hs : stayT x n = (heardT x n).1 := by unfold stayT; rw [he]
    rw [hs]
    unfold heardT at he ⊢
    by_cases ok : okA x.own n
    · rw [if_pos ok] at he ⊢
      unfold heardB at he ⊢
      by_cases hm : n ∈ x.K (rowB x n)
      · simp only [if_pos hm, erase_idxOf]
        have hl := len_erase _ _ hm
        have h1 := fun Q => len_put x (rowB x n) ((x.K (rowB x n)).erase n ++ [n]) Q 257 hlt
        refine ⟨fun j hj => ?_, fun _ => ?_, ?_⟩
        · unfold knowsT
          rw [rowB_put]
          by_cases e : rowB x j = rowB x n
          · rw [e, K_put]
            simp [hj, List.mem_erase_of_ne hj]
          · rw [K_put_other _ _ _ e]
        · unfold knowsT
          rw [rowB_put, K_put]
          simp
        · have hk1 : knowsT x n = true := by unfold knowsT; simpa using hm
          generalize (if List.idxOf n (x.K (rowB x n)) = 0 then [] else x.Q (rowB x n)) = Q'
          have := h1 Q'
          simp only [List.length_append, List.length_cons, List.length_nil] at this
          split
          · rename_i e
            rw [hk1] at e
            cases e.2
          · omega
      · simp only [if_neg hm] at he ⊢
        have hk0 : knowsT x n = false := by unfold knowsT; simpa using hm
        by_cases h3 : (x.K (rowB x n)).length < 4
        · simp only [if_pos h3]
          have h1 := len_put x (rowB x n) (x.K (rowB x n) ++ [n]) (x.Q (rowB x n)) 257 hlt
          refine ⟨fun j hj => ?_, fun e => ?_, ?_⟩
          · unfold knowsT
            rw [rowB_put]
            by_cases e : rowB x j = rowB x n
            · rw [e, K_put]
              simp [hj]
            · rw [K_put_other _ _ _ e]
          · rw [hk0] at e; cases e
          · rw [if_pos ⟨by unfold knowsT; rw [rowB_put, K_put]; simp, hk0⟩]
            simp only [List.length_append, List.length_cons, List.length_nil] at h1
            omega
        · simp only [if_neg h3] at he ⊢
          by_cases h0 : (x.Q (rowB x n)).length = 0
          · rw [if_pos h0] at he
            cases he
          · simp only [if_neg h0]
            have h1 := len_put x (rowB x n) (x.K (rowB x n)) (x.Q (rowB x n)) 257 hlt
            have hkn : ∀ j, knowsT (putB x (rowB x n) (x.K (rowB x n)) (x.Q (rowB x n))) j = knowsT x j := fun j => by
              unfold knowsT
              rw [rowB_put]
              by_cases e : rowB x j = rowB x n
              · rw [e, K_put]
              · rw [K_put_other _ _ _ e]
            refine ⟨fun j _ => hkn j, fun e => by rw [hkn]; exact e, ?_⟩
            rw [if_neg (fun e => by rw [hkn, e.2] at e; cases e.1)]
            omega
    · rw [if_neg ok]
      refine ⟨fun _ _ => rfl, id, ?_⟩
      split
      · rename_i e
        rw [e.2] at e
        cases e.1
      · rfl
end Go.Proofs.YtaicjdjfhbmfeaaDoor

/-
  A table of buckets in memory.
-/
namespace Go.Proofs.YtaicjdjfhbmfeaaDoor
open Go.RowKit Crv

abbrev Ttb : TypeId := 76
abbrev Tis : TypeId := 31
abbrev iv (n : Int) : Value := .int .i64 n
/-- The lists of a table, one after the other. -/
def lstB (x : BS) (j : Nat) : List Int := if j % 2 = 0 then x.K (j / 2) else x.Q (j / 2)
theorem lstB_K (x : BS) (k : Nat) : lstB x (k * 2) = x.K k := by
  unfold lstB
  rw [if_pos (by omega), Nat.mul_div_cancel _ (by omega)]
theorem lstB_Q (x : BS) (k : Nat) : lstB x (k * 2 + 1) = x.Q k := by
  unfold lstB
  rw [if_neg (by omega), show (k * 2 + 1) / 2 = k by omega]
/-- A table in memory: its block, the values of its lists. -/
structure Tbl (W : World) (tb : Nat) (sv : Nat → Value) (x : BS) : Prop where
  tag : Tag W tb Ttb
  ownc : W.cell? ⟨tb, 0, none⟩ = some (iv x.own)
  name : W.rangeAt tb 1 (x.a.map byteV)
  len : x.a.length = 32
  cell : ∀ j, j < 514 → W.cell? ⟨tb, 33 + j, none⟩ = some (sv j)
  own : ∀ j, j < 514 → Owns W 0 Tin (sv j) ((lstB x j).map iv)
  one : ∀ j j' b, j < 514 → j' < 514 → (sv j).ownBlock = some b → (sv j').ownBlock = some b → j = j'
  k4 : ∀ k, (x.K k).length ≤ 4
  q1 : ∀ k, (x.Q k).length ≤ 1
/-- Its blocks. -/
def FootB (tb : Nat) (sv : Nat → Value) (b : Nat) : Prop := b = tb ∨ ∃ j, j < 514 ∧ (sv j).ownBlock = some b
section
variable {W W' : World} {tb : Nat} {sv : Nat → Value} {x x' : BS} {F : Nat → Prop}
theorem Tbl.lt (h : Tbl W tb sv x) {b : Nat} (hf : FootB tb sv b) : b < W.heap.size := by
  rcases hf with rfl | ⟨j, hj, ho⟩
  · exact h.tag.lt
  · exact ((h.own j hj).lt b ho).1
theorem Tbl.of (h : Tbl W tb sv x) (hb : ∀ b, FootB tb sv b → W'.heap[b]? = W.heap[b]?) : Tbl W' tb sv x := by
  have h1 := hb tb (.inl rfl)
  refine ⟨h.tag.of h1, ?_, fun i v hv => ?_, h.len, fun j hj => ?_, fun j hj => ?_, h.one, h.k4, h.q1⟩
  · exact (World.cell?_of_block (a := ⟨tb, 0, none⟩) h1).trans h.ownc
  · exact (World.cell?_of_block (a := ⟨tb, 1 + i, none⟩) h1).trans (h.name i v hv)
  · exact (World.cell?_of_block (a := ⟨tb, 33 + j, none⟩) h1).trans (h.cell j hj)
  · exact (h.own j hj).of_below fun g hg => hb g (.inr ⟨j, hj, hg⟩)
theorem Tbl.below (h : Tbl W tb sv x) (hb : Below W.heap.size W W') : Tbl W' tb sv x := h.of fun b hf => hb.block b (h.lt hf)
theorem Tbl.drewN (h : Tbl W tb sv x) (n : Nat) : Tbl (W.drewN n) tb sv x := h.of fun _ _ => rfl
theorem Tbl.apart (h : Tbl W tb sv x) {j : Nat} (hj : j < 514) : (sv j).ownBlock ≠ some tb := fun e => ((owns_tag (h.own j hj) tb e).apart h.tag (by decide)) rfl
/-- What a cell of the table is behind a step that turns one list at most. -/
theorem Tbl.atj (h : Tbl W tb sv x) {j i : Nat} (hj : j < 514) (hi : i < 514) (hg : W.grownBy W' (sv j).ownBlock) : W'.cell? ⟨tb, 33 + i, none⟩ = some (sv i) ∧ W'.frozen? ⟨tb, 33 + i, none⟩ = false := by
  have h3 : W'.heap[tb]? = W.heap[tb]? := hg.block _ h.tag.lt (fun e => h.apart hj e.symm)
  exact ⟨(World.cell?_of_block (a := ⟨tb, 33 + i, none⟩) h3).trans (h.cell i hi), (h.tag.of h3).frozen _⟩
def updV (sv : Nat → Value) (j : Nat) (v : Value) : Nat → Value := fun i => if i = j then v else sv i
theorem updV_same (sv : Nat → Value) (j : Nat) (v : Value) : updV sv j v j = v := by simp [updV]
theorem updV_other (sv : Nat → Value) {j i : Nat} (v : Value) (h : i ≠ j) : updV sv j v i = sv i := by simp [updV, h]
/-- One list is another one now; nothing else turned but what it owned. -/
theorem Tbl.put (h : Tbl W tb sv x) {j0 : Nat} (hj0 : j0 < 514) {v' : Value} (ho : Owns W' 0 Tin v' ((lstB x' j0).map iv)) (hx1 : x'.own = x.own) (hx2 : x'.a = x.a) (hl : ∀ j, j ≠ j0 → lstB x' j = lstB x j)
    (h4 : ∀ k, (x'.K k).length ≤ 4) (h1 : ∀ k, (x'.Q k).length ≤ 1) (hg : W.grownBy W' (sv j0).ownBlock) (hat : ∀ g, v'.ownBlock = some g → (sv j0).ownBlock = some g ∨ W.heap.size ≤ g) :
    Tbl (W'.setCell ⟨tb, 33 + j0, none⟩ v') tb (updV sv j0 v') x' := by
  have hsame : ∀ b, b < W.heap.size → (sv j0).ownBlock ≠ some b → W'.heap[b]? = W.heap[b]? := fun b hb hne => hg.block b hb (fun e => hne e.symm)
  have ht : W'.heap[tb]? = W.heap[tb]? := hsame tb h.tag.lt (h.apart hj0)
  have hT := h.tag.of ht
  refine ⟨hT.set _ _ _, ?_, fun i v hv => ?_, hx2 ▸ h.len, fun j hj => ?_, fun j hj => ?_, ?_, h4, h1⟩
  · rw [hx1]
    exact cell_set_other ((World.cell?_of_block (a := ⟨tb, 0, none⟩) ht).trans h.ownc) (fun e => by have := e.2; simp only at this; omega)
  · rw [hx2] at hv
    have hi : i < 32 := by have := (List.getElem?_eq_some_iff.1 hv).1; rw [List.length_map, h.len] at this; exact this
    exact cell_set_other ((World.cell?_of_block (a := ⟨tb, 1 + i, none⟩) ht).trans (h.name i v hv)) (fun e => by have := e.2; simp only at this; omega)
  · have hc := (World.cell?_of_block (a := ⟨tb, 33 + j, none⟩) ht).trans (h.cell j hj)
    by_cases e : j = j0
    · subst e
      rw [updV_same]
      exact cell_set_same hc
    · rw [updV_other _ _ e]
      exact cell_set_other hc (fun e' => by have := e'.2; simp only at this; omega)
  · by_cases e : j = j0
    · subst e
      rw [updV_same]
      exact ho.of_below fun g hg' => Below.heap_setCell _ _ _ _ ((owns_tag ho g hg').apart hT (by decide))
    · rw [updV_other _ _ e, hl j e]
      have ho2 : Owns W' 0 Tin (sv j) ((lstB x j).map iv) := (h.own j hj).of_below fun g hg' => hsame g ((h.own j hj).lt g hg').1 (fun e' => e (h.one j j0 g hj hj0 hg' e'))
      exact ho2.of_below fun g hg' => Below.heap_setCell _ _ _ _ ((owns_tag ho2 g hg').apart hT (by decide))
  · intro j j' b hj hj' hb hb'
    have key : ∀ j, j < 514 → j ≠ j0 → (sv j).ownBlock = some b → v'.ownBlock = some b → False := by
      intro j hj hne hs hv
      rcases hat b hv with e | e
      · exact hne (h.one j j0 b hj hj0 hs e)
      · have := ((h.own j hj).lt b hs).1
        omega
    by_cases e : j = j0 <;> by_cases e' : j' = j0
    · exact e.trans e'.symm
    · subst e
      rw [updV_same] at hb
      rw [updV_other _ _ e'] at hb'
      exact (key j' hj' e' hb' hb).elim
    · subst e'
      rw [updV_same] at hb'
      rw [updV_other _ _ e] at hb
      exact (key j hj e hb hb').elim
    · rw [updV_other _ _ e] at hb
      rw [updV_other _ _ e'] at hb'
      exact h.one j j' b hj hj' hb hb'
theorem putB_lst (x : BS) (k : Nat) (K Q : List Int) (j : Nat) : lstB (putB x k K Q) j = if j = k * 2 then K else if j = k * 2 + 1 then Q else lstB x j := by
  unfold lstB putB
  simp only [updL]
  by_cases e : j % 2 = 0
  · by_cases e2 : j / 2 = k
    · rw [if_pos e, if_pos e2, if_pos (by omega)]
    · rw [if_pos e, if_neg e2, if_neg (by omega), if_neg (by omega), if_pos e]
  · by_cases e2 : j / 2 = k
    · rw [if_neg e, if_pos e2, if_neg (by omega), if_pos (by omega)]
    · rw [if_neg e, if_neg e2, if_neg (by omega), if_neg (by omega), if_neg e]
theorem putB_k4 (h : ∀ k, (x.K k).length ≤ 4) (k : Nat) {K Q : List Int} (hK : K.length ≤ 4) : ∀ j, ((putB x k K Q).K j).length ≤ 4 := fun j => by
  by_cases e : j = k
  · subst e; rw [K_put]; exact hK
  · rw [K_put_other _ _ _ e]; exact h j
theorem putB_q1 (h : ∀ k, (x.Q k).length ≤ 1) (k : Nat) {K Q : List Int} (hQ : Q.length ≤ 1) : ∀ j, ((putB x k K Q).Q j).length ≤ 1 := fun j => by
  by_cases e : j = k
  · subst e; rw [Q_put]; exact hQ
  · simp only [putB, updL_other _ _ e]; exact h j
/-- A row's known ones are others now. -/
theorem Tbl.putK (h : Tbl W tb sv x) {k : Nat} (hk : k < 257) {v' : Value} {K : List Int} (ho : Owns W' 0 Tin v' (K.map iv)) (hK : K.length ≤ 4) (hg : W.grownBy W' (sv (k * 2)).ownBlock)
    (hat : ∀ g, v'.ownBlock = some g → (sv (k * 2)).ownBlock = some g ∨ W.heap.size ≤ g) : Tbl (W'.setCell ⟨tb, 33 + k * 2, none⟩ v') tb (updV sv (k * 2) v') (putB x k K (x.Q k)) := by
  refine h.put (x' := putB x k K (x.Q k)) (by omega) (by rw [putB_lst, if_pos rfl]; exact ho) rfl rfl (fun j hj => ?_) (putB_k4 h.k4 k hK) (putB_q1 h.q1 k (h.q1 k)) hg hat
  rw [putB_lst, if_neg hj]
  split
  · rename_i e
    rw [e, lstB_Q]
  · rfl
/-- .. and who waits. -/
theorem Tbl.putQ (h : Tbl W tb sv x) {k : Nat} (hk : k < 257) {v' : Value} {Q : List Int} (ho : Owns W' 0 Tin v' (Q.map iv)) (hQ : Q.length ≤ 1) (hg : W.grownBy W' (sv (k * 2 + 1)).ownBlock)
    (hat : ∀ g, v'.ownBlock = some g → (sv (k * 2 + 1)).ownBlock = some g ∨ W.heap.size ≤ g) : Tbl (W'.setCell ⟨tb, 33 + (k * 2 + 1), none⟩ v') tb (updV sv (k * 2 + 1) v') (putB x k (x.K k) Q) := by
  refine h.put (x' := putB x k (x.K k) Q) (by omega) (by rw [putB_lst, if_neg (by omega), if_pos rfl]; exact ho) rfl rfl (fun j hj => ?_) (putB_k4 h.k4 k (h.k4 k)) (putB_q1 h.q1 k hQ) hg hat
  rw [putB_lst]
  split
  · rename_i e
    rw [e, lstB_K]
  · rfl
theorem putB_self (x : BS) (k : Nat) : putB x k (x.K k) (x.Q k) = x := by
  have e : ∀ f : Nat → List Int, updL f k (f k) = f := fun f => by
    funext j
    unfold updL
    split
    · rename_i e; rw [e]
    · rfl
  unfold putB
  rw [e, e]
theorem putB_put (x : BS) (k : Nat) (K Q K' Q' : List Int) : putB (putB x k K Q) k K' Q' = putB x k K' Q' := by
  have e : ∀ f : Nat → List Int, ∀ l l', updL (updL f k l) k l' = updL f k l' := fun f l l' => by
    funext j
    unfold updL
    split <;> rfl
  unfold putB
  simp only [e]
/-- A table, wherever its parts lie within F. -/
def Bx (W : World) (F : Nat → Prop) (tb : Nat) (x : BS) : Prop := ∃ sv, Tbl W tb sv x ∧ ∀ b, FootB tb sv b → F b
theorem Bx.mono {F' : Nat → Prop} (h : Bx W F tb x) (hF : ∀ b, b < W.heap.size → F b → F' b) : Bx W F' tb x := by
  obtain ⟨sv, h1, h2⟩ := h
  exact ⟨sv, h1, fun b hb => hF b (h1.lt hb) (h2 b hb)⟩
theorem Bx.of (h : Bx W F tb x) (hb : ∀ b, b < W.heap.size → F b → W'.heap[b]? = W.heap[b]?) : Bx W' F tb x := by
  obtain ⟨sv, h1, h2⟩ := h
  exact ⟨sv, h1.of fun b hf => hb b (h1.lt hf) (h2 b hf), h2⟩
theorem Bx.below (h : Bx W F tb x) (hb : Below W.heap.size W W') : Bx W' F tb x := h.of fun b hlt _ => hb.block b hlt
/-- Blocks of the table, or new since W. -/
theorem foot_put (hF : ∀ b, FootB tb sv b → F b) {j0 : Nat} {v' : Value} (hat : ∀ g, v'.ownBlock = some g → (sv j0).ownBlock = some g ∨ W.heap.size ≤ g) (hj0 : j0 < 514) : ∀ b, FootB tb (updV sv j0 v') b → And_new F W b := by
  rintro b (rfl | ⟨j, hj, ho⟩)
  · exact .inl (hF _ (.inl rfl))
  · by_cases e : j = j0
    · subst e
      rw [updV_same] at ho
      rcases hat b ho with h | h
      · exact .inl (hF _ (.inr ⟨j, hj, h⟩))
      · exact .inr h
    · rw [updV_other _ _ e] at ho
      exact .inl (hF _ (.inr ⟨j, hj, ho⟩))
/-- A list turned, then its cell. -/
theorem fr_put (hF : ∀ b, FootB tb sv b → F b) {j0 : Nat} (hj0 : j0 < 514) {v' : Value} (i : Nat) (hg : W.grownBy W' (sv j0).ownBlock) : Fr F W (W'.setCell ⟨tb, i, none⟩ v') :=
  (Fr.of_grown hg fun k hk => hF k (.inr ⟨j0, hj0, hk⟩)).trans (Fr.set (F := F) ⟨tb, i, none⟩ v' (hF tb (.inl rfl))) (fun _ hi => .inl hi)
end
end Go.Proofs.YtaicjdjfhbmfeaaDoor

/-
  slices.Delete, Index and Contains of numbers.
-/
namespace Go.Proofs.YtaicjdjfhbmfeaaDoor
open Go.RowKit Crv

theorem int_inf : ∃ i, Tryd.prog.info? Tin = some i ∧ i.zero = some (iv 0) ∧ i.size = 1 ∧ i.bytes = 8 := info_of (by kernel_rfl)
theorem delete_run {W : World} {g i m cap : Nat} {cur : Array Value} (hg : W.heap[g]? = some (.cells cur Tin (0, 0))) (hi : i ≤ m) (hm : m + 1 ≤ cap) (hs : cur.size = cap) (h1 : ∀ u ∈ cur.toList.take (m + 1), u.oneCell' = true) :
    ∃ W1 W2 cur2, (∀ ty, (Builtin.append_ #[Tis, Tis] ty #[.slice (some ⟨g, 0, none⟩) i cap, .slice (if cap = i + 1 then some ⟨g, 0, none⟩ else some ⟨g, i + 1, none⟩) (m + 1 - (i + 1)) (cap - (i + 1))]).run Tryd.prog W = .ok (.slice (some ⟨g, 0, none⟩) m cap) W1) ∧
      (∀ ty, (Builtin.clear_ #[Tis] ty #[.slice (some ⟨g, m, none⟩) (m + 1 - m) (cap - m)]).run Tryd.prog W1 = .ok (.tuple #[]) W2) ∧ W.grownBy W2 (some g) ∧
      W2.heap[g]? = some (.cells cur2 Tin (0, 0)) ∧ cur2.size = cap ∧ cur2.toList.take m = (cur.toList.take (m + 1)).eraseIdx i := by
  obtain ⟨ti, hti, hz, hs1, hby⟩ := int_inf
  have hln : cur.toList.length = cap := by simp [hs]
  have hnl : ((cur.toList.take (m + 1)).drop (i + 1)).length = (m + 1 - (i + 1)) * ti.size := by
    rw [hs1, Nat.mul_one, List.length_drop, List.length_take, hln]
    omega
  have happ : ∀ ty, (Builtin.append_ #[Tis, Tis] ty #[.slice (some ⟨g, 0, none⟩) i cap, .slice (if cap = i + 1 then some ⟨g, 0, none⟩ else some ⟨g, i + 1, none⟩) (m + 1 - (i + 1)) (cap - (i + 1))]).run Tryd.prog W = .ok (.slice (some ⟨g, 0, none⟩) m cap) (W.setRow g (cur.toList.take i ++ (cur.toList.take (m + 1)).drop (i + 1) ++ cur.toList.drop m).toArray) := by
    intro ty
    have key : ∀ a : Addr, (∀ j u, ((cur.toList.take (m + 1)).drop (i + 1))[j]? = some u → W.cell? (a.add j) = some u) →
        (Builtin.append_ #[Tis, Tis] ty #[.slice (some ⟨g, 0, none⟩) i cap, .slice (some a) (m + 1 - (i + 1)) (cap - (i + 1))]).run Tryd.prog W = .ok (.slice (some ⟨g, 0, none⟩) m cap) (W.setRow g (cur.toList.take i ++ (cur.toList.take (m + 1)).drop (i + 1) ++ cur.toList.drop m).toArray) := by
      intro a ha
      have h := run_append_room (P := Tryd.prog) W Tis ty Tin ti Tryd.underlying31 hti g i cap cur hg a (m + 1 - (i + 1)) (cap - (i + 1)) _ hnl ha (fun u hu => h1 u (List.mem_of_mem_drop hu)) (by omega) (by rw [hnl, hs1, hs]; omega)
      rw [h, hnl, hs1, Nat.mul_one, Nat.mul_one, show i + (m + 1 - (i + 1)) = m by omega]
    have hcells : ∀ j u, ((cur.toList.take (m + 1)).drop (i + 1))[j]? = some u → W.cell? ⟨g, i + 1 + j, none⟩ = some u := by
      intro j u hu
      rw [List.getElem?_drop] at hu
      have hlt : i + 1 + j < m + 1 := by
        have := (List.getElem?_eq_some_iff.1 hu).1
        rw [List.length_take] at this
        omega
      rw [List.getElem?_take_of_lt hlt] at hu
      simp [World.cell?, hg]
      simpa using hu
    split
    · rename_i hc
      refine key _ fun j u hu => ?_
      have hlt := (List.getElem?_eq_some_iff.1 hu).1
      rw [List.length_drop, List.length_take, hln] at hlt
      omega
    · refine key _ fun j u hu => ?_
      rw [show (⟨g, i + 1, none⟩ : Addr).add j = ⟨g, i + 1 + j, none⟩ from by unfold Addr.add; split <;> simp_all]
      exact hcells j u hu
  have hM : Mem (W.setRow g (cur.toList.take i ++ (cur.toList.take (m + 1)).drop (i + 1) ++ cur.toList.drop m).toArray) g Tin (cur.toList.take i ++ (cur.toList.take (m + 1)).drop (i + 1) ++ cur.toList.drop m) := setRow_heap W g _ _ Tin (0, 0) hg
  have hlen : (cur.toList.take i ++ (cur.toList.take (m + 1)).drop (i + 1) ++ cur.toList.drop m).length = cap := by
    simp only [List.length_append, List.length_take, List.length_drop, hln]
    omega
  have hgr : W.grownBy (W.setRow g (cur.toList.take i ++ (cur.toList.take (m + 1)).drop (i + 1) ++ cur.toList.drop m).toArray) (some g) :=
    ⟨rfl, rfl, rfl, by simp [World.setRow], fun k hk hne => heap_setRow_other W g k _ (fun e => hne (by rw [e]))⟩
  obtain ⟨W1, hW1⟩ : ∃ W1, W1 = W.setRow g (cur.toList.take i ++ (cur.toList.take (m + 1)).drop (i + 1) ++ cur.toList.drop m).toArray := ⟨_, rfl⟩
  rw [← hW1] at happ hM hgr
  have hcl : ∀ ty, (Builtin.clear_ #[Tis] ty #[.slice (some ⟨g, m, none⟩) (m + 1 - m) (cap - m)]).run Tryd.prog W1 = .ok (.tuple #[]) (W1.setCell ⟨g, m, none⟩ (iv 0)) := by
    intro ty
    have h := Lib.run_clear_slice (P := Tryd.prog) W1 Tis Tin ty (iv 0) Tryd.underlying31 (fun w => by kernel_rfl) rfl rfl g m (m + 1 - m) (cap - m) (by omega) (fun j hj => by
      rw [hM.cell, List.getElem?_eq_getElem (by omega)]; rfl) (fun j hj => hM.frozen _)
    rw [h, show m + 1 - m = 1 by omega]
    rfl
  refine ⟨W1, _, (cur.toList.take i ++ (cur.toList.take (m + 1)).drop (i + 1) ++ cur.toList.drop m).set m (iv 0) |>.toArray, happ, hcl, ?_, hM.set m (iv 0), ?_, ?_⟩
  · exact ⟨hgr.os, hgr.tape, hgr.output, by simpa [World.setCell] using hgr.size, fun k hk hne => (Below.heap_setCell W1 ⟨g, m, none⟩ (iv 0) k (fun e => hne (by rw [e]))).trans (hgr.block k hk hne)⟩
  · simp only [List.size_toArray, List.length_set, hlen]
  · rw [List.toList_toArray, List.take_set_of_le (Nat.le_refl m), List.take_append_of_le_length (by simp only [List.length_append, List.length_take, List.length_drop, hln]; omega),
      List.take_of_length_le (by simp only [List.length_append, List.length_take, List.length_drop, hln]; omega), List.eraseIdx_eq_take_drop_succ, List.take_take, Nat.min_eq_left (by omega)]
theorem step_append_run {P : Program} {ops : Array Oper} {o : Oper} {a : Act} {w : World} {Q : Exit → Act → World → Prop} {K : Act → World → Prop} {E : Prop} {v y v' : Value} {w' : World} (s x : Operand) (t : TypeId)
    (hr : ∀ ty, (Builtin.append_ #[t, t] ty #[v, y]).run P w = .ok v' w') (hgd : o.guard = none) (ho : o.op = .call { callee := .builtin .append, args := #[s, x], argTypes := #[t, t] }) (hs : a.eval s = v) (hx : a.eval x = y)
    (h : K (a.put o.dst v') w') : if Region.wanted o (yielded ops a.tmps) = true then Oper.wp P o a w K Q else E := by
  have hw : Region.wanted o (yielded ops a.tmps) = true := by simp [Region.wanted, hgd]
  rw [if_pos hw]
  unfold Oper.wp execOp
  simp only [ho, resolve, invoke, builtin, Sem.run_bind, Sem.run_pure, Result.andThen_ok, List.map_toArray, List.map_cons, List.map_nil, hs, hx, hr]
  exact h
theorem map_eraseIdx' {α β : Type} (f : α → β) : ∀ (l : List α) (i : Nat), (l.eraseIdx i).map f = (l.map f).eraseIdx i
  | [], _ => by simp
  | a :: r, 0 => by simp
  | a :: r, i + 1 => by simp [map_eraseIdx' f r i]
set_option maxHeartbeats 1000000 in
set_option maxRecDepth 100000 in
theorem delete_any {W : World} {v : Value} {ls : List Int} (ho : Owns W 0 Tin v (ls.map iv)) (i : Nat) (hi : i < ls.length) :
    Calls Tryd.prog 74 #[v, .int .i64 i, .int .i64 ((i : Int) + 1)] W fun e W' => ∃ v', e = .returned v' ∧ Owns W' 0 Tin v' ((ls.eraseIdx i).map iv) ∧ W.grownBy W' v.ownBlock ∧ v'.ownBlock = v.ownBlock := by
  have hlen := ho.1
  rcases ho.2 with ⟨rfl, h0⟩ | ⟨g, cap, cur, rfl, _, hg, hnc, hcm, hcs, htk⟩
  · rw [List.length_map] at h0
    omega
  rw [List.length_map] at hnc
  obtain ⟨m, hm⟩ : ∃ m, ls.length = m + 1 := ⟨ls.length - 1, by omega⟩
  rw [List.length_map, hm, Nat.mul_one] at htk
  have hcm2 : (cap : Int) ≤ 9223372036854775807 := by simp only [maxLen] at hcm; omega
  obtain ⟨W1, W2, cur2, happ, hcl, hgr, hg2, hs2, ht2⟩ := delete_run (W := W.drew) (g := g) (i := i) (m := m) (cap := cap) (cur := cur) hg (by omega) (by omega) (by omega) (by
    rw [htk]
    intro u hu
    obtain ⟨y, _, rfl⟩ := List.mem_map.1 hu
    rfl)
  rw [htk, ← map_eraseIdx'] at ht2
  rw [show m + 1 - (i + 1) = m - i by omega] at happ
  rw [show m + 1 - m = 1 by omega] at hcl
  have HF := Lib.hid (show Owns W2 0 Tin (.slice (some ⟨g, 0, none⟩) m cap) ((ls.eraseIdx i).map iv) from by
    have hl2 : ((ls.eraseIdx i).map iv).length = m := by rw [List.length_map, List.length_eraseIdx_of_lt hi]; omega
    refine ⟨by rw [hl2, Nat.mul_one], .inr ⟨g, cap, cur2, by rw [hl2], Nat.zero_le _, hg2, by omega, hcm, by omega, by rw [hl2, Nat.mul_one, ht2]⟩⟩)
  have HG := Lib.hid (show W.grownBy W2 (some g) from ⟨hgr.os, hgr.tape, hgr.output, hgr.size, hgr.block⟩)
  have h1 : (i : Int) + 1 ≤ (m : Int) + 1 := by omega
  have h2 : i ≤ cap := by omega
  have h3 : (m : Int) + 1 ≤ (cap : Int) := by omega
  have h4 : ¬ cap = m := by omega
  have h5 : (i : Int) ≤ (m : Int) + 1 := by omega
  have h7 : (0 : Int) ≤ (i : Int) + 1 := by omega
  have h8 : (m : Int) ≤ (m : Int) + 1 := by omega
  simp only [List.length_map, hm]
  clear hgr hg2 hs2 ht2 htk hcs hcm hlen ho hg hm hnc
  go_enter Tryd.func74, Tryd.ntmps74
  go_wp2_with fail
  have HAP := Lib.hid happ
  clear happ
  go_region_held3 (fun _ => True) (trivial)
    (first
      | (refine step_append_run (.tmp 22) (.tmp 25) Tis HAP.out rfl rfl rfl rfl ?_)
      | fail)
  rename_i K hK hov
  refine hK _ _ ?_
  have hcl' : ∀ ty, (Builtin.clear_ #[31] ty #[.slice (some ⟨g, m, none⟩) 1 (cap - m)]).run Tryd.prog W1 = .ok (.tuple #[]) W2 := hcl
  clear hcl
  go_wp2_with fail
  all_goals
    go_ret
    first
      | exact ⟨_, rfl, HF.out, HG.out, rfl⟩
      | (have hce : cap = i + 1 := by assumption
         subst hce
         exact ⟨_, rfl, HF.out, HG.out, rfl⟩)


theorem idxOf_none {xs : List Int} {n : Int} : ∀ {i : Nat}, i ≤ xs.length → (∀ j, j < i → xs.getD j 0 ≠ n) → n ∈ xs → i ≤ xs.idxOf n := by
  intro i hi h hm
  have hlt := List.idxOf_lt_length_iff.2 hm
  refine Classical.byContradiction fun e => ?_
  have h2 := h (xs.idxOf n) (by omega)
  rw [List.getD_eq_getElem?_getD, List.getElem?_eq_getElem hlt] at h2
  exact h2 (by simp)
theorem idxOf_at {xs : List Int} {n : Int} {i : Nat} (hi : i < xs.length) (h : ∀ j, j < i → xs.getD j 0 ≠ n) (he : xs.getD i 0 = n) : n ∈ xs ∧ xs.idxOf n = i := by
  have hg : xs[i] = n := by rw [List.getD_eq_getElem?_getD, List.getElem?_eq_getElem hi] at he; exact he
  have hm : n ∈ xs := hg ▸ List.getElem_mem hi
  refine ⟨hm, ?_⟩
  have h1 := idxOf_none (Nat.le_of_lt hi) h hm
  refine Nat.le_antisymm (Classical.byContradiction fun e => ?_) h1
  have := List.not_of_lt_findIdx (p := (· == n)) (xs := xs) (i := i) (by show i < xs.idxOf n; omega)
  simp [hg] at this
def idxI (xs : List Int) (n : Int) : Int := if n ∈ xs then (xs.idxOf n : Int) else -1
theorem Zs'.cell {W : World} {v : Value} {xs : List Int} (h : Owns W 0 Tin v (xs.map iv)) : ∃ a cap, v = .slice a xs.length cap ∧ xs.length ≤ cap ∧ cap ≤ maxLen ∧ ∀ i, i < xs.length → ∃ g, a = some ⟨g, 0, none⟩ ∧ W.cell? ⟨g, i, none⟩ = some (iv (xs.getD i 0)) := by
  obtain ⟨a, cap, h1, h2, h3, h4⟩ := h.form
  rw [List.length_map] at h1 h2 h4
  refine ⟨a, cap, h1, h2, h3, fun i hi => ?_⟩
  obtain ⟨g, hg, _, hc⟩ := h4 i hi
  refine ⟨g, hg, hc.trans ?_⟩
  rw [List.getElem?_map, List.getD_eq_getElem?_getD, List.getElem?_eq_getElem hi]
  rfl
set_option maxHeartbeats 1000000 in
set_option maxRecDepth 100000 in
theorem index_any {W : World} {v : Value} {xs : List Int} (ho : Owns W 0 Tin v (xs.map iv)) (hl : xs.length ≤ 1000000) (n : Int) :
    Calls Tryd.prog 73 #[v, iv n] W fun e W' => e = .returned (iv (idxI xs n)) ∧ W = W' := by
  obtain ⟨a, cap, rfl, -, -, hc⟩ := Zs'.cell ho
  have HO := Lib.hid hc
  clear ho hc
  go_enter Tryd.func73, Tryd.ntmps73
  go_wp2_with fail
  go_loop [8] (fun k => ∃ i : Nat, i ≤ xs.length ∧ k = .int .i64 i ∧ ∀ j, j < i → xs.getD j 0 ≠ n) (fun k => xs.length - (intOf k).toNat)
  case atStart => exact ⟨0, by omega, rfl, fun j hj => by omega⟩
  case round =>
    obtain ⟨i, hi, rfl, hno⟩ := hrel
    have HN := Lib.hid hno
    clear hno
    by_cases hlt : i < xs.length
    · obtain ⟨g, rfl, hcell⟩ := HO.out i hlt
      obtain ⟨c, hc⟩ : ∃ c, c = xs.getD i 0 := ⟨_, rfl⟩
      have HC := Lib.hid hc.symm
      rw [← hc] at hcell
      clear hc
      have hl1 : (i : Int) < (xs.length : Int) := by omega
      by_cases he : n = c
      · subst he
        obtain ⟨h1, h2⟩ := idxOf_at hlt HN.out HC.out
        have HX := Lib.hid (show idxI xs n = (i : Int) by unfold idxI; rw [if_pos h1, h2])
        clear h1 h2 hlt
        go_wp2_with fail
        go_ret
        exact ⟨by rw [HX.out]; rfl, rfl⟩
      · have he' : decide (n = c) = false := by simpa using he
        go_wp2_with fail
        go_round
        case rel => exact ⟨i + 1, by omega, by go_num, fun j hj => by
          by_cases e : j = i
          · subst e
            rw [HC.out]
            exact fun e => he e.symm
          · exact HN.out j (by omega)⟩
        case measure => simp [intOf]; omega
    · have hl1 : ¬ (i : Int) < (xs.length : Int) := by omega
      have HX := Lib.hid (show idxI xs n = -1 by
        unfold idxI
        rw [if_neg]
        intro hm
        have h1 := idxOf_none hi HN.out hm
        have h2 := List.idxOf_lt_length_iff.2 hm
        omega)
      clear hlt
      go_wp2_with fail
      go_ret
      exact ⟨by rw [HX.out]; rfl, rfl⟩
theorem idxI_ge (xs : List Int) (n : Int) : decide (0 ≤ idxI xs n) = decide (n ∈ xs) := by
  unfold idxI
  by_cases h : n ∈ xs
  · rw [if_pos h, decide_eq_true h, decide_eq_true (by omega)]
  · rw [if_neg h, decide_eq_false h, decide_eq_false (by omega)]
theorem contains_any {W : World} {v : Value} {xs : List Int} (ho : Owns W 0 Tin v (xs.map iv)) (hl : xs.length ≤ 1000000) (n : Int) :
    Calls Tryd.prog 45 #[v, iv n] W fun e W' => e = .returned (.bool (decide (n ∈ xs))) ∧ W = W' := by
  have HI := Lib.hid (index_any ho hl n)
  rw [← idxI_ge]
  clear ho
  go_enter Tryd.func45, Tryd.ntmps45
  go_wp2_with fail
  refine HI.out.mono ?_
  rintro e w' ⟨rfl, rfl⟩
  go_wp2_with fail
  go_ret
  exact ⟨rfl, rfl⟩
end Go.Proofs.YtaicjdjfhbmfeaaDoor
