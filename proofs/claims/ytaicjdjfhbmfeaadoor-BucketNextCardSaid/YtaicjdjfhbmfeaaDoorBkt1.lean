/-
  Buckets: who waits comes in; who answers stays (mathematics).
-/
import Derived.Test.YtaicjdjfhbmfeaaDoorBkt0
namespace Go.Proofs.YtaicjdjfhbmfeaaDoor
open Go.RowKit Crv

variable {x : BS} {n m : Int}
theorem rowB_put (x : BS) (k : Nat) (K Q : List Int) (n : Int) : rowB (putB x k K Q) n = rowB x n := rfl
theorem heardT_own (x : BS) (n : Int) : (heardT x n).1.own = x.own := by unfold heardT; split <;> rfl
theorem goneT_own (x : BS) (n : Int) : (goneT x n).1.own = x.own := rfl
/-- Who leads to a question. -/
theorem heardT_some (h : Inv x) (he : (heardT x n).2 = some m) : ∃ t, okA x.own n ∧ x.K (rowB x n) = m :: t ∧ t.length = 3 ∧ n ∉ m :: t ∧ (heardT x n).1 = putB x (rowB x n) (m :: t) [n] := by
  unfold heardT at he ⊢
  split at he
  case isFalse => cases he
  rename_i ok
  rw [if_pos ok]
  have h4 := h.k4 (rowB x n)
  generalize hk : x.K (rowB x n) = L at he h4 ⊢
  unfold heardB at he ⊢
  by_cases hm : n ∈ L
  · simp [if_pos hm] at he
  · simp only [if_neg hm] at he ⊢
    split at he
    · cases he
    · rename_i h3
      split at he
      · rename_i h0
        simp only [if_neg h3, if_pos h0]
        match L, he, hm, h3, h4 with
        | a :: t, he, hm, h3, h4 =>
          simp only [List.getD_cons_zero, Option.some.injEq] at he
          subst he
          simp only [List.length_cons] at h3 h4
          exact ⟨t, ok, rfl, by omega, hm, rfl⟩
      · cases he
def noQ (x : BS) : Prop := ∀ k, x.Q k = []
theorem noQ_put (h : noQ x) (k : Nat) (K : List Int) : noQ (putB x k K []) := fun j => by
  by_cases e : j = k
  · subst e; simp [putB, updL_same]
  · simp [putB, updL_other _ _ e, h j]
theorem noQ_put2 (h : noQ x) (k : Nat) (K Q K' : List Int) : noQ (putB (putB x k K Q) k K' []) := fun j => by
  by_cases e : j = k
  · subst e; simp [putB, updL_same]
  · simp [putB, updL_other _ _ e, h j]
theorem noQ_none (h : noQ x) (he : (heardT x n).2 = none) : noQ (heardT x n).1 := by
  unfold heardT at he ⊢
  split
  case isFalse => exact h
  rename_i ok
  rw [if_pos ok] at he
  unfold heardB at he ⊢
  have hq := h (rowB x n)
  rw [hq] at he ⊢
  by_cases hm : n ∈ x.K (rowB x n)
  · simp only [if_pos hm, ite_self]
    exact noQ_put h _ _
  · simp only [if_neg hm] at he ⊢
    split
    · exact noQ_put h _ _
    · rename_i h3
      simp [if_neg h3] at he
theorem K_put (x : BS) (k : Nat) (K Q : List Int) : (putB x k K Q).K k = K := by simp [putB, updL_same]
theorem Q_put (x : BS) (k : Nat) (K Q : List Int) : (putB x k K Q).Q k = Q := by simp [putB, updL_same]
theorem K_put_other (x : BS) {k j : Nat} (K Q : List Int) (h : j ≠ k) : (putB x k K Q).K j = x.K j := by simp [putB, updL_other _ _ h]
theorem idx_head (a : Int) (t : List Int) : (a :: t).idxOf a = 0 := by simp
/-- The one that was asked is gone: who waits comes in. -/
theorem next_step (h : Inv x) (hq : noQ x) (he : (heardT x n).2 = some m) :
    knowsT (heardT x n).1 m = true ∧ knowsT (heardT x n).1 n = false ∧ (goneT (heardT x n).1 m).2 = true ∧ knowsT (goneT (heardT x n).1 m).1 n = true ∧ knowsT (goneT (heardT x n).1 m).1 m = false ∧
      (allB (goneT (heardT x n).1 m).1 257).length = (allB (heardT x n).1 257).length ∧ noQ (goneT (heardT x n).1 m).1 := by
  obtain ⟨t, ok, hK, ht, hn, hy⟩ := heardT_some h he
  have hr : rowB x m = rowB x n := (h.kin (rowB x n) m (by rw [hK]; simp)).1
  have hnd := h.nd (rowB x n)
  rw [hK] at hnd
  have hmt : m ∉ t := (List.nodup_cons.1 hnd).1
  have hmn : m ≠ n := fun e => hn (by rw [e]; simp)
  have hnt : n ∉ t := fun e => hn (by simp [e])
  rw [hy]
  obtain ⟨y, hyy⟩ : ∃ y, y = putB x (rowB x n) (m :: t) [n] := ⟨_, rfl⟩
  have ry : ∀ j, rowB y j = rowB x j := fun j => by rw [hyy]; rfl
  have hyK : y.K (rowB x n) = m :: t := by rw [hyy, K_put]
  have hyQ : y.Q (rowB x n) = [n] := by rw [hyy, Q_put]
  have hg : goneT y m = (putB y (rowB x n) (t ++ [n]) [], true) := by
    unfold goneT goneB
    rw [ry, hr, hyK, hyQ]
    simp
  rw [← hyy, hg]
  refine ⟨?_, ?_, rfl, ?_, ?_, ?_, ?_⟩
  · unfold knowsT
    rw [ry, hr, hyK]
    simp
  · unfold knowsT
    rw [ry, hyK]
    simpa using hn
  · unfold knowsT
    simp only [rowB_put, ry, K_put]
    simp
  · unfold knowsT
    simp only [rowB_put, ry, hr, K_put]
    simp [hmt, hmn]
  · have hl := len_put y (rowB x n) (t ++ [n]) [] 257 (by have := rowB_le x n; omega)
    rw [hyK] at hl
    simp only [List.length_append, List.length_cons, List.length_nil] at hl
    simp only
    omega
  · simp only
    rw [hyy]
    exact noQ_put2 hq _ _ _ _
/-- Heard of, and who is asked answers. -/
def stayT (x : BS) (n : Int) : BS := match (heardT x n).2 with
  | some m => (heardT (heardT x n).1 m).1
  | none => (heardT x n).1
theorem stay_own (x : BS) (n : Int) : (stayT x n).own = x.own := by
  unfold stayT
  split <;> simp [heardT_own]
theorem stay_inv (h : Inv x) (n : Int) : Inv (stayT x n) := by
  unfold stayT
  split
  · exact (h.heard n).heard _
  · exact h.heard n
/-- Who is asked, and answers, goes to the end of his row. -/
theorem stay_some (h : Inv x) (he : (heardT x n).2 = some m) : ∃ t, x.K (rowB x n) = m :: t ∧ n ∉ m :: t ∧ stayT x n = putB (putB x (rowB x n) (m :: t) [n]) (rowB x n) (t ++ [m]) [] := by
  obtain ⟨t, ok, hK, ht, hn, hy⟩ := heardT_some h he
  have hr : rowB x m = rowB x n := (h.kin (rowB x n) m (by rw [hK]; simp)).1
  have okm : okA x.own m := (h.kin (rowB x n) m (by rw [hK]; simp)).2
  refine ⟨t, hK, hn, ?_⟩
  unfold stayT
  rw [he]
  simp only
  rw [hy]
  obtain ⟨y, hyy⟩ : ∃ y, y = putB x (rowB x n) (m :: t) [n] := ⟨_, rfl⟩
  have ry : rowB y m = rowB x n := by rw [hyy]; exact hr
  have hyK : y.K (rowB x n) = m :: t := by rw [hyy, K_put]
  have hyQ : y.Q (rowB x n) = [n] := by rw [hyy, Q_put]
  have ho : y.own = x.own := by rw [hyy]; rfl
  rw [← hyy]
  unfold heardT heardB
  rw [ho, if_pos okm, ry, hyK, hyQ]
  simp
theorem stay_noQ (h : Inv x) (hq : noQ x) (n : Int) : noQ (stayT x n) := by
  cases he : (heardT x n).2 with
  | none =>
    unfold stayT
    rw [he]
    exact noQ_none hq he
  | some m =>
    obtain ⟨t, _, _, hs⟩ := stay_some h he
    rw [hs]
    exact noQ_put2 hq _ _ _ _
theorem rowB_stay (x : BS) (n j : Int) : rowB (stayT x n) j = rowB x j := by
  have h1 : ∀ (x : BS) (n : Int), rowB (heardT x n).1 j = rowB x j := fun x n => by unfold heardT; split <;> rfl
  unfold stayT
  split
  · rw [h1, h1]
  · rw [h1]
/-- Who is known is known behind it; nobody else but n, perhaps; so many more. -/
theorem stay_known (h : Inv x) (n : Int) : (∀ j, j ≠ n → knowsT (stayT x n) j = knowsT x j) ∧ (knowsT x n = true → knowsT (stayT x n) n = true) ∧
    (allB (stayT x n) 257).length = (allB x 257).length + if knowsT (stayT x n) n = true ∧ knowsT x n = false then 1 else 0 := by
  have hlt : rowB x n < 257 := by have := rowB_le x n; omega
  cases he : (heardT x n).2 with
  | some m =>
    obtain ⟨t, hK, hn, hs⟩ := stay_some h he
    have hkn : ∀ j, knowsT (stayT x n) j = knowsT x j := fun j => by
      unfold knowsT
      rw [rowB_stay, hs]
      by_cases e : rowB x j = rowB x n
      · rw [e, K_put, hK]
        simp [or_comm]
      · rw [K_put_other _ _ _ e, K_put_other _ _ _ e]
    refine ⟨fun j _ => hkn j, fun e => by rw [hkn]; exact e, ?_⟩
    rw [if_neg (fun e => by rw [hkn, e.2] at e; cases e.1), hs]
    have h1 := len_put (putB x (rowB x n) (m :: t) [n]) (rowB x n) (t ++ [m]) [] 257 hlt
    have h2 := len_put x (rowB x n) (m :: t) [n] 257 hlt
    rw [K_put] at h1
    rw [hK] at h2
    simp only [List.length_append, List.length_cons, List.length_nil] at h1 h2
    omega
  | none =>
    have hs : stayT x n = (heardT x n).1 := by unfold stayT; rw [he]
    rw [hs]
    unfold heardT at he ⊢
    by_cases ok : okA x.own n
    · rw [if_pos ok] at he ⊢
      unfold heardB at he ⊢
      by_cases hm : n ∈ x.K (rowB x n)
      · simp only [if_pos hm, erase_idxOf]
        have hl := len_erase _ _ hm
        have h1 := fun Q => len_put x (rowB x n) ((x.K (rowB x n)).erase n ++ [n]) Q 257 hlt
        refine ⟨fun j hj => ?_, fun _ => ?_, ?_⟩
        · unfold knowsT
          rw [rowB_put]
          by_cases e : rowB x j = rowB x n
          · rw [e, K_put]
            simp [hj, List.mem_erase_of_ne hj]
          · rw [K_put_other _ _ _ e]
        · unfold knowsT
          rw [rowB_put, K_put]
          simp
        · have hk1 : knowsT x n = true := by unfold knowsT; simpa using hm
          generalize (if List.idxOf n (x.K (rowB x n)) = 0 then [] else x.Q (rowB x n)) = Q'
          have := h1 Q'
          simp only [List.length_append, List.length_cons, List.length_nil] at this
          split
          · rename_i e
            rw [hk1] at e
            cases e.2
          · omega
      · simp only [if_neg hm] at he ⊢
        have hk0 : knowsT x n = false := by unfold knowsT; simpa using hm
        by_cases h3 : (x.K (rowB x n)).length < 4
        · simp only [if_pos h3]
          have h1 := len_put x (rowB x n) (x.K (rowB x n) ++ [n]) (x.Q (rowB x n)) 257 hlt
          refine ⟨fun j hj => ?_, fun e => ?_, ?_⟩
          · unfold knowsT
            rw [rowB_put]
            by_cases e : rowB x j = rowB x n
            · rw [e, K_put]
              simp [hj]
            · rw [K_put_other _ _ _ e]
          · rw [hk0] at e; cases e
          · rw [if_pos ⟨by unfold knowsT; rw [rowB_put, K_put]; simp, hk0⟩]
            simp only [List.length_append, List.length_cons, List.length_nil] at h1
            omega
        · simp only [if_neg h3] at he ⊢
          by_cases h0 : (x.Q (rowB x n)).length = 0
          · rw [if_pos h0] at he
            cases he
          · simp only [if_neg h0]
            have h1 := len_put x (rowB x n) (x.K (rowB x n)) (x.Q (rowB x n)) 257 hlt
            have hkn : ∀ j, knowsT (putB x (rowB x n) (x.K (rowB x n)) (x.Q (rowB x n))) j = knowsT x j := fun j => by
              unfold knowsT
              rw [rowB_put]
              by_cases e : rowB x j = rowB x n
              · rw [e, K_put]
              · rw [K_put_other _ _ _ e]
            refine ⟨fun j _ => hkn j, fun e => by rw [hkn]; exact e, ?_⟩
            rw [if_neg (fun e => by rw [hkn, e.2] at e; cases e.1)]
            omega
    · rw [if_neg ok]
      refine ⟨fun _ _ => rfl, id, ?_⟩
      split
      · rename_i e
        rw [e.2] at e
        cases e.1
      · rfl
end Go.Proofs.YtaicjdjfhbmfeaaDoor
