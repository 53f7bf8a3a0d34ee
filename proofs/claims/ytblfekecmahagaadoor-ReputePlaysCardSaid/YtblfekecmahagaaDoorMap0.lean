/-
  Maps as lists of pairs in the order of their keys (mathematics).
-/
import Derived.Test.YtblfekecmahagaaDoorBase
import Derived.Maps.OwnSet
import Derived.Maps.OwnOps
import Derived.Maps.RangeWalk
import Derived.Maps.Views
namespace Crv
open Go Go.Maps

/-- How keys and elements are told. -/
structure Enc (κ ν : Type) where
  ek : κ → Lit
  ev : ν → DataW Unit
  inj : ∀ a b, ek a = ek b → a = b
  key : ∀ a, WideAt.IsKeyLit (ek a)
section
variable {κ ν : Type} (e : Enc κ ν)
def Enc.lt (a b : κ) : Bool := (e.ek a).before (e.ek b)
def Enc.enc (l : List (κ × ν)) : List (Lit × DataW Unit) := l.map fun p => (e.ek p.1, e.ev p.2)
def Enc.ins (x : κ × ν) : List (κ × ν) → List (κ × ν)
  | [] => [x]
  | y :: r => if e.lt x.1 y.1 = true then x :: y :: r else y :: Enc.ins x r
theorem Enc.length (l : List (κ × ν)) : (e.enc l).length = l.length := by simp [Enc.enc]
theorem Enc.size (l : List (κ × ν)) : Maps.size (DataW.map (e.enc l)) = l.length := by rw [size_eq, Enc.length]
theorem Enc.insert (x : κ × ν) : ∀ l : List (κ × ν), DataW.insert (e.ek x.1, e.ev x.2) (e.enc l) = e.enc (e.ins x l)
  | [] => rfl
  | y :: r => by
    have ih := Enc.insert x r
    unfold Enc.enc at ih ⊢
    unfold Enc.ins
    rw [List.map_cons]
    unfold DataW.insert
    by_cases h : e.lt x.1 y.1 = true
    · rw [if_pos h]
      have h' : (e.ek x.1).before (e.ek y.1) = true := h
      simp only [h', if_true]
      rfl
    · rw [if_neg h]
      have h' : (e.ek x.1).before (e.ek y.1) = false := by
        cases hb : (e.ek x.1).before (e.ek y.1)
        · rfl
        · exact absurd hb h
      simp only [h', Bool.false_eq_true, if_false, List.map_cons, ih]
theorem Enc.ins_perm (x : κ × ν) : ∀ l : List (κ × ν), (e.ins x l).Perm (x :: l)
  | [] => .refl _
  | y :: r => by
    unfold Enc.ins
    split
    · exact .refl _
    · exact ((Enc.ins_perm x r).cons y).trans (.swap x y r)
end
section
variable {κ ν : Type} [DecidableEq κ] (e : Enc κ ν)
def getK (k : κ) (l : List (κ × ν)) : Option ν := (l.find? fun p => decide (p.1 = k)).map (·.2)
def delK (k : κ) (l : List (κ × ν)) : List (κ × ν) := l.filter fun p => !decide (p.1 = k)
def Enc.set (k : κ) (v : ν) (l : List (κ × ν)) : List (κ × ν) := e.ins (k, v) (delK k l)
theorem Enc.same (a b : κ) : (e.ek a).sameKey (e.ek b) = decide (a = b) := by
  by_cases h : a = b
  · subst h; simp [WideAt.sameKey_self (e.key a)]
  · simp [h, sameKey_ne (fun q => h (e.inj _ _ q))]
theorem Enc.find (k : κ) : ∀ l : List (κ × ν), (e.enc l).find? (fun p => p.1.sameKey (e.ek k)) = (l.find? fun p => decide (p.1 = k)).map fun p => (e.ek p.1, e.ev p.2)
  | [] => rfl
  | p :: r => by
    have ih := Enc.find k r
    unfold Enc.enc at ih ⊢
    rw [List.map_cons, List.find?_cons, List.find?_cons]
    simp only [Enc.same]
    cases h : decide (p.1 = k)
    · simpa using ih
    · rfl
theorem Enc.atKey (k : κ) (l : List (κ × ν)) (z : DataW Unit) : (DataW.map (e.enc l)).atKey (e.ek k) z = ((getK k l).map e.ev).getD z := by
  unfold DataW.atKey
  simp only [Enc.find]
  unfold getK
  cases l.find? fun p => decide (p.1 = k) <;> rfl
theorem Enc.has (k : κ) (l : List (κ × ν)) : Maps.has (DataW.map (e.enc l)) (e.ek k) = (getK k l).isSome := by
  rw [has_eq]
  induction l with
  | nil => rfl
  | cons p r ih =>
    unfold Enc.enc at ih ⊢
    unfold getK at ih ⊢
    rw [List.map_cons, List.any_cons, List.find?_cons, ih]
    simp only [Enc.same]
    cases h : decide (p.1 = k)
    · rfl
    · rfl
theorem Enc.filter (k : κ) (l : List (κ × ν)) : (e.enc l).filter (fun p => !p.1.sameKey (e.ek k)) = e.enc (delK k l) := by
  unfold Enc.enc delK
  rw [List.filter_map]
  congr 1
  refine List.filter_congr fun p _ => ?_
  simp [Enc.same]
theorem Enc.put (k : κ) (v : ν) (l : List (κ × ν)) : (DataW.map (e.enc l)).put (e.ek k) (e.ev v) = .map (e.enc (e.set k v l)) := by
  unfold DataW.put Enc.set
  simp only [Enc.filter, ← Enc.insert]
theorem Enc.del (k : κ) (l : List (κ × ν)) : (DataW.map (e.enc l)).del (e.ek k) = .map (e.enc (delK k l)) := by
  unfold DataW.del
  simp only [Enc.filter]
/-- No key twice. -/
def Uniq (l : List (κ × ν)) : Prop := l.Pairwise fun p q => p.1 ≠ q.1
theorem Uniq.del {l : List (κ × ν)} (h : Uniq l) (k : κ) : Uniq (delK k l) := List.Pairwise.filter _ h
theorem Uniq.set {l : List (κ × ν)} (h : Uniq l) (k : κ) (v : ν) : Uniq (e.set k v l) := by
  have h1 : Uniq ((k, v) :: delK k l) := List.pairwise_cons.2 ⟨fun p hp => by
    have := (List.mem_filter.1 hp).2
    simp only [Bool.not_eq_true', decide_eq_false_iff_not] at this
    exact fun q => this q.symm, h.del k⟩
  exact ((e.ins_perm (k, v) (delK k l)).pairwise_iff (fun {_ _} hne => Ne.symm hne)).2 h1
theorem mem_getK {l : List (κ × ν)} (h : Uniq l) (k : κ) (v : ν) : getK k l = some v ↔ (k, v) ∈ l := by
  unfold getK
  induction l with
  | nil => simp
  | cons p r ih =>
    obtain ⟨h1, h2⟩ := List.pairwise_cons.1 h
    rw [List.find?_cons]
    by_cases hk : p.1 = k
    · simp only [hk, decide_true, Option.map_some, Option.some.injEq, List.mem_cons]
      constructor
      · rintro rfl; left; rw [← hk]
      · rintro (rfl | h3)
        · rfl
        · exact absurd hk (h1 _ h3)
    · simp only [hk, decide_false, ih h2, List.mem_cons]
      constructor
      · exact .inr
      · rintro (rfl | h3)
        · exact absurd rfl hk
        · exact h3
theorem getK_none {l : List (κ × ν)} (k : κ) : getK k l = none ↔ ∀ p ∈ l, p.1 ≠ k := by
  unfold getK
  rw [Option.map_eq_none_iff, List.find?_eq_none]
  simp
theorem getK_perm {l l' : List (κ × ν)} (h : Uniq l) (hp : l.Perm l') (k : κ) : getK k l' = getK k l := by
  have h' : Uniq l' := (hp.pairwise_iff (fun {_ _} hne => Ne.symm hne)).1 h
  cases hg : getK k l with
  | none =>
    rw [getK_none] at hg ⊢
    exact fun p hp' => hg p (hp.mem_iff.2 hp')
  | some v =>
    rw [mem_getK h'] 
    exact hp.mem_iff.1 ((mem_getK h k v).1 hg)
theorem getK_cons (k j : κ) (v : ν) (l : List (κ × ν)) : getK k ((j, v) :: l) = if j = k then some v else getK k l := by
  unfold getK
  rw [List.find?_cons]
  by_cases h : j = k <;> simp [h]
theorem getK_del (k j : κ) (l : List (κ × ν)) : getK k (delK j l) = if k = j then none else getK k l := by
  unfold getK delK
  rw [List.find?_filter]
  by_cases h : k = j
  · subst h
    rw [if_pos rfl, Option.map_eq_none_iff, List.find?_eq_none]
    intro p _
    simp
  · rw [if_neg h]
    congr 1
    congr 1
    funext p
    by_cases hp : p.1 = k
    · simp [hp, h]
    · simp [hp]
theorem getK_set {l : List (κ × ν)} (h : Uniq l) (k j : κ) (v : ν) : getK k (e.set j v l) = if k = j then some v else getK k l := by
  have h1 := Uniq.set e h j v
  have hp := e.ins_perm (j, v) (delK j l)
  rw [← getK_perm h1 hp k, getK_cons, getK_del]
  by_cases hk : k = j
  · simp [hk]
  · rw [if_neg hk, if_neg hk, if_neg (fun q => hk q.symm)]
theorem length_del {l : List (κ × ν)} (h : Uniq l) (k : κ) : (delK k l).length + (if (getK k l).isSome = true then 1 else 0) = l.length := by
  induction l with
  | nil => rfl
  | cons p r ih =>
    obtain ⟨h1, h2⟩ := List.pairwise_cons.1 h
    have ih := ih h2
    unfold delK getK at ih ⊢
    rw [List.filter_cons, List.find?_cons]
    by_cases hk : p.1 = k
    · have hn : r.filter (fun p => !decide (p.1 = k)) = r := List.filter_eq_self.2 fun q hq => by
        have := h1 q hq
        simp [← hk]; exact fun e => this e.symm
      simp [hk, hn]
    · simp only [hk, decide_false, Bool.not_false, if_true, List.length_cons]
      omega
theorem length_set {l : List (κ × ν)} (h : Uniq l) (k : κ) (v : ν) : (e.set k v l).length = if (getK k l).isSome = true then l.length else l.length + 1 := by
  have h1 := (e.ins_perm (k, v) (delK k l)).length_eq
  have h2 := length_del h k
  unfold Enc.set
  rw [h1, List.length_cons]
  split at h2
  · rename_i hs; rw [if_pos hs]; omega
  · rename_i hs; rw [if_neg hs]; omega
end
/-- A map in a block that reads as such a list. -/
def MpS {κ ν : Type} [DecidableEq κ] (P : Program) (k : TypeId) (R : Value → Option (DataW Unit × List MemPlace)) (e : Enc κ ν) (W : World) (b : Nat) (l : List (κ × ν)) : Prop := W.ownsMap P k R b l.length (.map (e.enc l))
section
variable {κ ν : Type} [DecidableEq κ] {P : Program} {k t el : TypeId} {R : Value → Option (DataW Unit × List MemPlace)} {e : Enc κ ν} {W W' : World} {b n : Nat} {l : List (κ × ν)}
theorem MpS.tight (h : W.ownsMap P k R b n (.map (e.enc l))) : MpS P k R e W b l := by
  obtain ⟨es, clock, hb, F, hs, hD⟩ := h
  refine ⟨es, clock, hb, F, ?_, hD⟩
  injection hD with hD
  have := congrArg List.length hD
  rw [Enc.length, length_sorted, List.length_map] at this
  simp at this
  omega
theorem MpS.lt (h : MpS P k R e W b l) : b < W.heap.size := World.ownsMap.lt h
theorem MpS.of (h : MpS P k R e W b l) (hb : W'.heap[b]? = W.heap[b]?) : MpS P k R e W' b l := by
  obtain ⟨es, cl, h1, h2⟩ := h
  exact ⟨es, cl, hb.trans h1, h2⟩
theorem MpS.grown {row : Option Nat} (h : MpS P k R e W b l) (hg : W.grownBy W' row) (hne : some b ≠ row) : MpS P k R e W' b l := h.of (hg.block b h.lt hne)
theorem MpS.made (W : World) : MpS P k R e (W.alloc (.map #[] 0)) W.heap.size [] := World.ownsMap_made W _ _ _
theorem MpS.uniq (h : MpS P k R e W b l) (K : Keyed P k) : Uniq l := by
  obtain ⟨es, he, hp, _⟩ := World.ownsMap.entries h K
  injection he with he
  subst he
  unfold Enc.enc at hp
  rw [List.pairwise_map] at hp
  exact hp.imp fun hne q => hne (by rw [q])
theorem MpS.rise (h : MpS P k R e W b l) (K : Keyed P k) : l.Pairwise fun p q => e.lt p.1 q.1 = true := by
  obtain ⟨es, cl, hb, F, hs, hD⟩ := h
  injection hD with hD
  have h1 := Maps.sorted_sorted K.one _ (Maps.fit_keys F) (Maps.fit_apart K F)
  rw [← hD] at h1
  unfold Enc.enc at h1
  rw [List.pairwise_map] at h1
  exact h1
theorem MpS.block (h : MpS P k R e W b l) : ∃ es c, W.heap[b]? = some (.map es c) := by
  obtain ⟨es, cl, hb, _⟩ := h
  exact ⟨es, cl, hb⟩
end
end Crv
