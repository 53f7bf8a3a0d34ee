/-
  A table of buckets in memory.
-/
import Derived.Test.YtaicjdjfhbmfeaaDoorBkt1
import Derived.Test.YtaicjdjfhbmfeaaDoorMsm1
import Derived.Test.YtaicjdjfhbmfeaaDoorZMap
namespace Go.Proofs.YtaicjdjfhbmfeaaDoor
open Go.RowKit Crv

abbrev Ttb : TypeId := 76
abbrev Tis : TypeId := 31
abbrev iv (n : Int) : Value := .int .i64 n
/-- The lists of a table, one after the other. -/
def lstB (x : BS) (j : Nat) : List Int := if j % 2 = 0 then x.K (j / 2) else x.Q (j / 2)
theorem lstB_K (x : BS) (k : Nat) : lstB x (k * 2) = x.K k := by
  unfold lstB
  rw [if_pos (by omega), Nat.mul_div_cancel _ (by omega)]
theorem lstB_Q (x : BS) (k : Nat) : lstB x (k * 2 + 1) = x.Q k := by
  unfold lstB
  rw [if_neg (by omega), show (k * 2 + 1) / 2 = k by omega]
/-- A table in memory: its block, the values of its lists. -/
structure Tbl (W : World) (tb : Nat) (sv : Nat → Value) (x : BS) : Prop where
  tag : Tag W tb Ttb
  ownc : W.cell? ⟨tb, 0, none⟩ = some (iv x.own)
  name : W.rangeAt tb 1 (x.a.map byteV)
  len : x.a.length = 32
  cell : ∀ j, j < 514 → W.cell? ⟨tb, 33 + j, none⟩ = some (sv j)
  own : ∀ j, j < 514 → Owns W 0 Tin (sv j) ((lstB x j).map iv)
  one : ∀ j j' b, j < 514 → j' < 514 → (sv j).ownBlock = some b → (sv j').ownBlock = some b → j = j'
  k4 : ∀ k, (x.K k).length ≤ 4
  q1 : ∀ k, (x.Q k).length ≤ 1
/-- Its blocks. -/
def FootB (tb : Nat) (sv : Nat → Value) (b : Nat) : Prop := b = tb ∨ ∃ j, j < 514 ∧ (sv j).ownBlock = some b
section
variable {W W' : World} {tb : Nat} {sv : Nat → Value} {x x' : BS} {F : Nat → Prop}
theorem Tbl.lt (h : Tbl W tb sv x) {b : Nat} (hf : FootB tb sv b) : b < W.heap.size := by
  rcases hf with rfl | ⟨j, hj, ho⟩
  · exact h.tag.lt
  · exact ((h.own j hj).lt b ho).1
theorem Tbl.of (h : Tbl W tb sv x) (hb : ∀ b, FootB tb sv b → W'.heap[b]? = W.heap[b]?) : Tbl W' tb sv x := by
  have h1 := hb tb (.inl rfl)
  refine ⟨h.tag.of h1, ?_, fun i v hv => ?_, h.len, fun j hj => ?_, fun j hj => ?_, h.one, h.k4, h.q1⟩
  · exact (World.cell?_of_block (a := ⟨tb, 0, none⟩) h1).trans h.ownc
  · exact (World.cell?_of_block (a := ⟨tb, 1 + i, none⟩) h1).trans (h.name i v hv)
  · exact (World.cell?_of_block (a := ⟨tb, 33 + j, none⟩) h1).trans (h.cell j hj)
  · exact (h.own j hj).of_below fun g hg => hb g (.inr ⟨j, hj, hg⟩)
theorem Tbl.below (h : Tbl W tb sv x) (hb : Below W.heap.size W W') : Tbl W' tb sv x := h.of fun b hf => hb.block b (h.lt hf)
theorem Tbl.drewN (h : Tbl W tb sv x) (n : Nat) : Tbl (W.drewN n) tb sv x := h.of fun _ _ => rfl
theorem Tbl.apart (h : Tbl W tb sv x) {j : Nat} (hj : j < 514) : (sv j).ownBlock ≠ some tb := fun e => ((owns_tag (h.own j hj) tb e).apart h.tag (by decide)) rfl
/-- What a cell of the table is behind a step that turns one list at most. -/
theorem Tbl.atj (h : Tbl W tb sv x) {j i : Nat} (hj : j < 514) (hi : i < 514) (hg : W.grownBy W' (sv j).ownBlock) : W'.cell? ⟨tb, 33 + i, none⟩ = some (sv i) ∧ W'.frozen? ⟨tb, 33 + i, none⟩ = false := by
  have h3 : W'.heap[tb]? = W.heap[tb]? := hg.block _ h.tag.lt (fun e => h.apart hj e.symm)
  exact ⟨(World.cell?_of_block (a := ⟨tb, 33 + i, none⟩) h3).trans (h.cell i hi), (h.tag.of h3).frozen _⟩
def updV (sv : Nat → Value) (j : Nat) (v : Value) : Nat → Value := fun i => if i = j then v else sv i
theorem updV_same (sv : Nat → Value) (j : Nat) (v : Value) : updV sv j v j = v := by simp [updV]
theorem updV_other (sv : Nat → Value) {j i : Nat} (v : Value) (h : i ≠ j) : updV sv j v i = sv i := by simp [updV, h]
/-- One list is another one now; nothing else turned but what it owned. -/
theorem Tbl.put (h : Tbl W tb sv x) {j0 : Nat} (hj0 : j0 < 514) {v' : Value} (ho : Owns W' 0 Tin v' ((lstB x' j0).map iv)) (hx1 : x'.own = x.own) (hx2 : x'.a = x.a) (hl : ∀ j, j ≠ j0 → lstB x' j = lstB x j)
    (h4 : ∀ k, (x'.K k).length ≤ 4) (h1 : ∀ k, (x'.Q k).length ≤ 1) (hg : W.grownBy W' (sv j0).ownBlock) (hat : ∀ g, v'.ownBlock = some g → (sv j0).ownBlock = some g ∨ W.heap.size ≤ g) :
    Tbl (W'.setCell ⟨tb, 33 + j0, none⟩ v') tb (updV sv j0 v') x' := by
  have hsame : ∀ b, b < W.heap.size → (sv j0).ownBlock ≠ some b → W'.heap[b]? = W.heap[b]? := fun b hb hne => hg.block b hb (fun e => hne e.symm)
  have ht : W'.heap[tb]? = W.heap[tb]? := hsame tb h.tag.lt (h.apart hj0)
  have hT := h.tag.of ht
  refine ⟨hT.set _ _ _, ?_, fun i v hv => ?_, hx2 ▸ h.len, fun j hj => ?_, fun j hj => ?_, ?_, h4, h1⟩
  · rw [hx1]
    exact cell_set_other ((World.cell?_of_block (a := ⟨tb, 0, none⟩) ht).trans h.ownc) (fun e => by have := e.2; simp only at this; omega)
  · rw [hx2] at hv
    have hi : i < 32 := by have := (List.getElem?_eq_some_iff.1 hv).1; rw [List.length_map, h.len] at this; exact this
    exact cell_set_other ((World.cell?_of_block (a := ⟨tb, 1 + i, none⟩) ht).trans (h.name i v hv)) (fun e => by have := e.2; simp only at this; omega)
  · have hc := (World.cell?_of_block (a := ⟨tb, 33 + j, none⟩) ht).trans (h.cell j hj)
    by_cases e : j = j0
    · subst e
      rw [updV_same]
      exact cell_set_same hc
    · rw [updV_other _ _ e]
      exact cell_set_other hc (fun e' => by have := e'.2; simp only at this; omega)
  · by_cases e : j = j0
    · subst e
      rw [updV_same]
      exact ho.of_below fun g hg' => Below.heap_setCell _ _ _ _ ((owns_tag ho g hg').apart hT (by decide))
    · rw [updV_other _ _ e, hl j e]
      have ho2 : Owns W' 0 Tin (sv j) ((lstB x j).map iv) := (h.own j hj).of_below fun g hg' => hsame g ((h.own j hj).lt g hg').1 (fun e' => e (h.one j j0 g hj hj0 hg' e'))
      exact ho2.of_below fun g hg' => Below.heap_setCell _ _ _ _ ((owns_tag ho2 g hg').apart hT (by decide))
  · intro j j' b hj hj' hb hb'
    have key : ∀ j, j < 514 → j ≠ j0 → (sv j).ownBlock = some b → v'.ownBlock = some b → False := by
      intro j hj hne hs hv
      rcases hat b hv with e | e
      · exact hne (h.one j j0 b hj hj0 hs e)
      · have := ((h.own j hj).lt b hs).1
        omega
    by_cases e : j = j0 <;> by_cases e' : j' = j0
    · exact e.trans e'.symm
    · subst e
      rw [updV_same] at hb
      rw [updV_other _ _ e'] at hb'
      exact (key j' hj' e' hb' hb).elim
    · subst e'
      rw [updV_same] at hb'
      rw [updV_other _ _ e] at hb
      exact (key j hj e hb hb').elim
    · rw [updV_other _ _ e] at hb
      rw [updV_other _ _ e'] at hb'
      exact h.one j j' b hj hj' hb hb'
theorem putB_lst (x : BS) (k : Nat) (K Q : List Int) (j : Nat) : lstB (putB x k K Q) j = if j = k * 2 then K else if j = k * 2 + 1 then Q else lstB x j := by
  unfold lstB putB
  simp only [updL]
  by_cases e : j % 2 = 0
  · by_cases e2 : j / 2 = k
    · rw [if_pos e, if_pos e2, if_pos (by omega)]
    · rw [if_pos e, if_neg e2, if_neg (by omega), if_neg (by omega), if_pos e]
  · by_cases e2 : j / 2 = k
    · rw [if_neg e, if_pos e2, if_neg (by omega), if_pos (by omega)]
    · rw [if_neg e, if_neg e2, if_neg (by omega), if_neg (by omega), if_neg e]
theorem putB_k4 (h : ∀ k, (x.K k).length ≤ 4) (k : Nat) {K Q : List Int} (hK : K.length ≤ 4) : ∀ j, ((putB x k K Q).K j).length ≤ 4 := fun j => by
  by_cases e : j = k
  · subst e; rw [K_put]; exact hK
  · rw [K_put_other _ _ _ e]; exact h j
theorem putB_q1 (h : ∀ k, (x.Q k).length ≤ 1) (k : Nat) {K Q : List Int} (hQ : Q.length ≤ 1) : ∀ j, ((putB x k K Q).Q j).length ≤ 1 := fun j => by
  by_cases e : j = k
  · subst e; rw [Q_put]; exact hQ
  · simp only [putB, updL_other _ _ e]; exact h j
/-- A row's known ones are others now. -/
theorem Tbl.putK (h : Tbl W tb sv x) {k : Nat} (hk : k < 257) {v' : Value} {K : List Int} (ho : Owns W' 0 Tin v' (K.map iv)) (hK : K.length ≤ 4) (hg : W.grownBy W' (sv (k * 2)).ownBlock)
    (hat : ∀ g, v'.ownBlock = some g → (sv (k * 2)).ownBlock = some g ∨ W.heap.size ≤ g) : Tbl (W'.setCell ⟨tb, 33 + k * 2, none⟩ v') tb (updV sv (k * 2) v') (putB x k K (x.Q k)) := by
  refine h.put (x' := putB x k K (x.Q k)) (by omega) (by rw [putB_lst, if_pos rfl]; exact ho) rfl rfl (fun j hj => ?_) (putB_k4 h.k4 k hK) (putB_q1 h.q1 k (h.q1 k)) hg hat
  rw [putB_lst, if_neg hj]
  split
  · rename_i e
    rw [e, lstB_Q]
  · rfl
/-- .. and who waits. -/
theorem Tbl.putQ (h : Tbl W tb sv x) {k : Nat} (hk : k < 257) {v' : Value} {Q : List Int} (ho : Owns W' 0 Tin v' (Q.map iv)) (hQ : Q.length ≤ 1) (hg : W.grownBy W' (sv (k * 2 + 1)).ownBlock)
    (hat : ∀ g, v'.ownBlock = some g → (sv (k * 2 + 1)).ownBlock = some g ∨ W.heap.size ≤ g) : Tbl (W'.setCell ⟨tb, 33 + (k * 2 + 1), none⟩ v') tb (updV sv (k * 2 + 1) v') (putB x k (x.K k) Q) := by
  refine h.put (x' := putB x k (x.K k) Q) (by omega) (by rw [putB_lst, if_neg (by omega), if_pos rfl]; exact ho) rfl rfl (fun j hj => ?_) (putB_k4 h.k4 k (h.k4 k)) (putB_q1 h.q1 k hQ) hg hat
  rw [putB_lst]
  split
  · rename_i e
    rw [e, lstB_K]
  · rfl
theorem putB_self (x : BS) (k : Nat) : putB x k (x.K k) (x.Q k) = x := by
  have e : ∀ f : Nat → List Int, updL f k (f k) = f := fun f => by
    funext j
    unfold updL
    split
    · rename_i e; rw [e]
    · rfl
  unfold putB
  rw [e, e]
theorem putB_put (x : BS) (k : Nat) (K Q K' Q' : List Int) : putB (putB x k K Q) k K' Q' = putB x k K' Q' := by
  have e : ∀ f : Nat → List Int, ∀ l l', updL (updL f k l) k l' = updL f k l' := fun f l l' => by
    funext j
    unfold updL
    split <;> rfl
  unfold putB
  simp only [e]
/-- A table, wherever its parts lie within F. -/
def Bx (W : World) (F : Nat → Prop) (tb : Nat) (x : BS) : Prop := ∃ sv, Tbl W tb sv x ∧ ∀ b, FootB tb sv b → F b
theorem Bx.mono {F' : Nat → Prop} (h : Bx W F tb x) (hF : ∀ b, b < W.heap.size → F b → F' b) : Bx W F' tb x := by
  obtain ⟨sv, h1, h2⟩ := h
  exact ⟨sv, h1, fun b hb => hF b (h1.lt hb) (h2 b hb)⟩
theorem Bx.of (h : Bx W F tb x) (hb : ∀ b, b < W.heap.size → F b → W'.heap[b]? = W.heap[b]?) : Bx W' F tb x := by
  obtain ⟨sv, h1, h2⟩ := h
  exact ⟨sv, h1.of fun b hf => hb b (h1.lt hf) (h2 b hf), h2⟩
theorem Bx.below (h : Bx W F tb x) (hb : Below W.heap.size W W') : Bx W' F tb x := h.of fun b hlt _ => hb.block b hlt
/-- Blocks of the table, or new since W. -/
theorem foot_put (hF : ∀ b, FootB tb sv b → F b) {j0 : Nat} {v' : Value} (hat : ∀ g, v'.ownBlock = some g → (sv j0).ownBlock = some g ∨ W.heap.size ≤ g) (hj0 : j0 < 514) : ∀ b, FootB tb (updV sv j0 v') b → And_new F W b := by
  rintro b (rfl | ⟨j, hj, ho⟩)
  · exact .inl (hF _ (.inl rfl))
  · by_cases e : j = j0
    · subst e
      rw [updV_same] at ho
      rcases hat b ho with h | h
      · exact .inl (hF _ (.inr ⟨j, hj, h⟩))
      · exact .inr h
    · rw [updV_other _ _ e] at ho
      exact .inl (hF _ (.inr ⟨j, hj, ho⟩))
/-- A list turned, then its cell. -/
theorem fr_put (hF : ∀ b, FootB tb sv b → F b) {j0 : Nat} (hj0 : j0 < 514) {v' : Value} (i : Nat) (hg : W.grownBy W' (sv j0).ownBlock) : Fr F W (W'.setCell ⟨tb, i, none⟩ v') :=
  (Fr.of_grown hg fun k hk => hF k (.inr ⟨j0, hj0, hk⟩)).trans (Fr.set (F := F) ⟨tb, i, none⟩ v' (hF tb (.inl rfl))) (fun _ hi => .inl hi)
end
end Go.Proofs.YtaicjdjfhbmfeaaDoor
