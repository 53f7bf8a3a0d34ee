/-
  Several texts in one: their sentences stand at their heads.
-/
import Derived.Test.YtaicjdjfhbmfeaaDoorBase
import Derived.Maps.OwnSet
import Derived.Maps.OwnOps
import Derived.Maps.Views
import Derived.Maps.Keyed
import Derived.WalkArith
import Derived.Carry
import Derived.Maps.RangeWalk
/-
  Mathematics of a mesh: what each call leaves and answers.
-/
namespace Go.Proofs.YtaicjdjfhbmfeaaDoor
open Crv

/-- A mesh: so many addresses; what waits at each from each; one more than who was served last at each (0: nobody); how many were lost. -/
structure MS where
  n : Nat
  q : Nat → Nat → List (List UInt8)
  s1 : Nat → Nat
  lost : Nat
def upd2 {α : Type} (q : Nat → Nat → α) (t f : Nat) (l : α) : Nat → Nat → α := fun t' f' => if t' = t ∧ f' = f then l else q t' f'
def upd1 (s : Nat → Nat) (t v : Nat) : Nat → Nat := fun t' => if t' = t then v else s t'
theorem upd2_same {α : Type} (q : Nat → Nat → α) (t f : Nat) (l : α) : upd2 q t f l t f = l := by simp [upd2]
theorem upd2_other {α : Type} (q : Nat → Nat → α) {t f t' f' : Nat} (l : α) (h : ¬ (t' = t ∧ f' = f)) : upd2 q t f l t' f' = q t' f' := by simp [upd2, h]
theorem upd1_same (s : Nat → Nat) (t v : Nat) : upd1 s t v t = v := by simp [upd1]
theorem upd1_other (s : Nat → Nat) {t t' : Nat} (v : Nat) (h : t' ≠ t) : upd1 s t v t' = s t' := by simp [upd1, h]
/-- Is it an address? -/
def isAdr (n : Nat) (a : Int) : Bool := decide (0 ≤ a) && decide (a < n)
theorem isAdr_nat {n a : Nat} (h : a < n) : isAdr n a = true := by simp [isAdr, h]
theorem isAdr_true {n : Nat} {a : Int} (h : isAdr n a = true) : ∃ k : Nat, a = k ∧ k < n := by
  simp [isAdr] at h
  exact ⟨a.toNat, by omega, by omega⟩
/-- A mesh without packets. -/
def newM (n : Nat) : MS := ⟨n, fun _ _ => [], fun _ => 0, 0⟩
/-- Send to one address: the mesh, the error. -/
def sendM (x : MS) (fr : Int) (text : List UInt8) (to : Int) : MS × Nat :=
  if isAdr x.n to = false ∨ isAdr x.n fr = false then (x, 10)
  else if 1024 < text.length then ({ x with lost := x.lost + 1 }, 5)
  else if 8 ≤ (x.q to.toNat fr.toNat).length then ({ x with lost := x.lost + 1 }, 14)
  else ({ x with q := upd2 x.q to.toNat fr.toNat (x.q to.toNat fr.toNat ++ [text]) }, 0)
/-- How far behind the one served last the next source is. -/
def nextI (x : MS) (t : Nat) : Option Nat := (List.range x.n).find? fun i => !(x.q t ((x.s1 t + i) % x.n)).isEmpty
def nextM (x : MS) (t : Nat) : Option Nat := (nextI x t).map fun i => (x.s1 t + i) % x.n
/-- A packet less. -/
def dropM (x : MS) (t f i : Nat) : MS := { x with q := upd2 x.q t f ((x.q t f).eraseIdx i) }
def serveM (x : MS) (t f : Nat) : MS := { x with s1 := upd1 x.s1 t (f + 1) }
def takeM (x : MS) (t : Nat) : MS × Option (Nat × List UInt8) :=
  match nextM x t with
  | none => (x, none)
  | some f => (dropM (serveM x t f) t f 0, some (f, (x.q t f).getD 0 []))
/-- How many of the first k sources wait at an address; at the first k addresses. -/
def rowS (x : MS) (t : Nat) : Nat → Nat
  | 0 => 0
  | k + 1 => rowS x t k + (x.q t k).length
def totS (x : MS) : Nat → Nat
  | 0 => 0
  | k + 1 => totS x k + rowS x k x.n
def allM (x : MS) : Nat := totS x x.n

theorem nextI_some {x : MS} {t i : Nat} (hi : i < x.n) (he : ∀ j, j < i → x.q t ((x.s1 t + j) % x.n) = []) (hne : x.q t ((x.s1 t + i) % x.n) ≠ []) : nextI x t = some i := by
  unfold nextI
  rw [List.find?_range_eq_some]
  refine ⟨by simp [hne], by simp [hi], fun j hj => by simp [he j hj]⟩
theorem nextI_none {x : MS} {t : Nat} (he : ∀ j, j < x.n → x.q t ((x.s1 t + j) % x.n) = []) : nextI x t = none := by
  unfold nextI
  rw [List.find?_range_eq_none]
  intro j hj
  simp [he j hj]
theorem nextI_spec {x : MS} {t i : Nat} (h : nextI x t = some i) : i < x.n ∧ x.q t ((x.s1 t + i) % x.n) ≠ [] ∧ ∀ j, j < i → x.q t ((x.s1 t + j) % x.n) = [] := by
  unfold nextI at h
  rw [List.find?_range_eq_some] at h
  obtain ⟨h1, h2, h3⟩ := h
  refine ⟨by simpa using h2, by simpa using h1, fun j hj => by simpa using h3 j hj⟩
theorem nextI_empty {x : MS} {t : Nat} (h : nextI x t = none) : ∀ j, j < x.n → x.q t ((x.s1 t + j) % x.n) = [] := by
  unfold nextI at h
  rw [List.find?_range_eq_none] at h
  intro j hj
  simpa using h j hj
/-- Every source comes in the round. -/
theorem round_has (s n f : Nat) (hf : f < n) : ∃ i, i < n ∧ (s + i) % n = f := by
  have hn : 0 < n := by omega
  have hm := Nat.mod_lt s hn
  refine ⟨(f + (n - s % n)) % n, Nat.mod_lt _ hn, ?_⟩
  have e := Nat.div_add_mod s n
  rw [Nat.add_mod_mod]
  have e2 : s + (f + (n - s % n)) = f + n * (s / n + 1) := by
    rw [Nat.mul_add, Nat.mul_one]
    omega
  rw [e2, Nat.add_mul_mod_self_left, Nat.mod_eq_of_lt hf]
theorem nextM_spec {x : MS} {t f : Nat} (h : nextM x t = some f) : f < x.n ∧ x.q t f ≠ [] := by
  unfold nextM at h
  cases hi : nextI x t with
  | none => simp [hi] at h
  | some i =>
    obtain ⟨h1, h2, _⟩ := nextI_spec hi
    simp only [hi, Option.map_some, Option.some.injEq] at h
    subst h
    exact ⟨Nat.mod_lt _ (by omega), h2⟩
theorem nextM_none {x : MS} {t : Nat} (h : nextM x t = none) (f : Nat) (hf : f < x.n) : x.q t f = [] := by
  unfold nextM at h
  cases hi : nextI x t with
  | none =>
    obtain ⟨i, h1, rfl⟩ := round_has (x.s1 t) x.n f hf
    exact nextI_empty hi i h1
  | some i => simp [hi] at h
theorem nextM_empty {x : MS} {t : Nat} (h : ∀ f, f < x.n → x.q t f = []) : nextM x t = none := by
  cases hi : nextM x t with
  | none => rfl
  | some f => exact absurd (h f (nextM_spec hi).1) (nextM_spec hi).2
theorem nextM_only {x : MS} {t f : Nat} (hf : f < x.n) (hq : x.q t f ≠ []) (ho : ∀ f', f' < x.n → f' ≠ f → x.q t f' = []) : nextM x t = some f := by
  cases hi : nextM x t with
  | none => exact absurd (nextM_none hi f hf) hq
  | some g =>
    obtain ⟨h1, h2⟩ := nextM_spec hi
    rw [Classical.byContradiction (fun h : ¬ g = f => h2 (ho g h1 h))]
theorem rowS_zero {x : MS} {t : Nat} : ∀ k, (∀ f, f < k → x.q t f = []) → rowS x t k = 0
  | 0, _ => rfl
  | k + 1, h => by
    show rowS x t k + (x.q t k).length = 0
    rw [rowS_zero k (fun f hf => h f (by omega)), h k (by omega)]
    rfl
theorem allM_zero {x : MS} (h : ∀ t f, t < x.n → f < x.n → x.q t f = []) : allM x = 0 := by
  have : ∀ k, k ≤ x.n → totS x k = 0 := by
    intro k
    induction k with
    | zero => intro _; rfl
    | succ k ih =>
      intro hk
      show totS x k + rowS x k x.n = 0
      rw [ih (by omega), rowS_zero x.n (fun f hf => h k f (by omega) hf)]
  exact this _ (Nat.le_refl _)
theorem rowS_le {x : MS} {t : Nat} (h : ∀ f, (x.q t f).length ≤ 8) : ∀ k, rowS x t k ≤ 8 * k
  | 0 => Nat.le_refl _
  | k + 1 => by
    have := rowS_le h k
    have h2 := h k
    show rowS x t k + (x.q t k).length ≤ _
    omega
theorem totS_le {x : MS} (h : ∀ t f, (x.q t f).length ≤ 8) (hn : x.n ≤ 64) : ∀ k, totS x k ≤ 512 * k
  | 0 => Nat.le_refl _
  | k + 1 => by
    have := totS_le h hn k
    have h2 := rowS_le (h k) x.n
    show totS x k + rowS x k x.n ≤ _
    omega
/-- Sending to several addresses, one by one. -/
theorem sendM_n (x : MS) (fr : Int) (text : List UInt8) (to : Int) : (sendM x fr text to).1.n = x.n := by
  unfold sendM
  repeat' split
  all_goals rfl
theorem takeM_n (x : MS) (t : Nat) : (takeM x t).1.n = x.n := by
  unfold takeM
  split <;> rfl
end Go.Proofs.YtaicjdjfhbmfeaaDoor

/-
  A mesh in memory.
-/
namespace Go.Proofs.YtaicjdjfhbmfeaaDoor
open Go.RowKit Crv

abbrev Tss : TypeId := 80
abbrev Tst : TypeId := 9
/-- A block of cells of this type, none of them frozen. -/
def Tag (W : World) (b : Nat) (t : TypeId) : Prop := ∃ cs, W.heap[b]? = some (Obj.cells cs t (0, 0))
theorem Tag.lt {W : World} {b : Nat} {t : TypeId} (h : Tag W b t) : b < W.heap.size := by
  obtain ⟨cs, h⟩ := h
  exact (Array.getElem?_eq_some_iff.1 h).1
theorem Tag.frozen {W : World} {b : Nat} {t : TypeId} (h : Tag W b t) (i : Nat) : W.frozen? ⟨b, i, none⟩ = false := by
  obtain ⟨cs, h⟩ := h
  simp [World.frozen?, h]
theorem Tag.apart {W : World} {b b' : Nat} {t t' : TypeId} (h : Tag W b t) (h' : Tag W b' t') (hne : t ≠ t') : b ≠ b' := by
  obtain ⟨cs, h⟩ := h
  obtain ⟨cs', h'⟩ := h'
  rintro rfl
  rw [h] at h'
  injection h' with h'
  injection h' with _ h2 _
  exact hne h2
theorem Tag.of {W W' : World} {b : Nat} {t : TypeId} (h : Tag W b t) (hb : W'.heap[b]? = W.heap[b]?) : Tag W' b t := by
  obtain ⟨cs, h⟩ := h
  exact ⟨cs, hb.trans h⟩
theorem Tag.mem {W : World} {b : Nat} {t : TypeId} {cs : List Value} (h : Mem W b t cs) : Tag W b t := ⟨_, h⟩
theorem Tag.set {W : World} {b : Nat} {t : TypeId} (h : Tag W b t) (g i : Nat) (u : Value) : Tag (W.setCell ⟨g, i, none⟩ u) b t := by
  obtain ⟨cs, h⟩ := h
  by_cases e : b = g
  · subst e
    refine ⟨cs.setIfInBounds i u, ?_⟩
    simp [World.setCell, Array.getElem?_modify, h]
  · exact ⟨cs, (Below.heap_setCell W _ u b e).trans h⟩
theorem cell_set_same {W : World} {b i : Nat} {v u : Value} (h : W.cell? ⟨b, i, none⟩ = some v) : (W.setCell ⟨b, i, none⟩ u).cell? ⟨b, i, none⟩ = some u := World.cell?_setCell_same (h := h) ..
theorem cell_set_other {W : World} {b i : Nat} {p : Addr} {v u : Value} (h : W.cell? ⟨b, i, none⟩ = some v) (hne : ¬ (b = p.block ∧ i = p.off)) : (W.setCell p u).cell? ⟨b, i, none⟩ = some v := by
  rw [World.cell?_setCell_other (h := fun e => hne (by rw [e]; exact ⟨rfl, rfl⟩))]
  exact h

/-- The blocks of a mesh. -/
def Foot (mb bb : Nat) (qb : Nat → Nat) (sv : Nat → Nat → Value) (n b : Nat) : Prop := b = mb ∨ b = bb ∨ (∃ t, t < n ∧ b = qb t) ∨ ∃ t f, t < n ∧ f < n ∧ (sv t f).ownBlock = some b
section
variable {W W' : World} {mb bb : Nat} {qb : Nat → Nat} {sv : Nat → Nat → Value} {x : MS}
theorem owns_tag {W : World} {base : Nat} {e : TypeId} {v : Value} {xs : List Value} (h : Owns W base e v xs) : ∀ g, v.ownBlock = some g → Tag W g e := by
  intro g hg
  rcases h.2 with ⟨rfl, _⟩ | ⟨g', cap, cur, rfl, h1, h2, h3⟩
  · cases hg
  · have : g' = g := by simpa [Value.ownBlock] using hg
    subst this
    exact ⟨_, h2⟩
end
/-- What a call leaves alone: every block but those of F. -/
structure Fr (F : Nat → Prop) (W W' : World) : Prop where
  os : W'.os = W.os
  tape : W'.tape = W.tape
  output : W'.output = W.output
  size : W.heap.size ≤ W'.heap.size
  block : ∀ k, k < W.heap.size → ¬ F k → W'.heap[k]? = W.heap[k]?
theorem Fr.refl (F : Nat → Prop) (W : World) : Fr F W W := ⟨rfl, rfl, rfl, Nat.le_refl _, fun _ _ _ => rfl⟩
theorem Fr.trans {F F' : Nat → Prop} {a b c : World} (h : Fr F a b) (k : Fr F' b c) (hF : ∀ i, F' i → F i ∨ a.heap.size ≤ i) : Fr F a c :=
  ⟨k.os.trans h.os, k.tape.trans h.tape, k.output.trans h.output, Nat.le_trans h.size k.size, fun i hi hn => (k.block i (Nat.lt_of_lt_of_le hi h.size) (fun e => by rcases hF i e with h1 | h1; exact hn h1; omega)).trans (h.block i hi hn)⟩
theorem Fr.mono {F F' : Nat → Prop} {a b : World} (h : Fr F a b) (hF : ∀ i, F i → F' i) : Fr F' a b := ⟨h.os, h.tape, h.output, h.size, fun k hk hn => h.block k hk (fun e => hn (hF k e))⟩
theorem Fr.of_below {F : Nat → Prop} {a b : World} (h : Below a.heap.size a b) : Fr F a b := ⟨h.os, h.tape, h.output, h.size, fun k hk _ => h.block k hk⟩
theorem Fr.of_grown {F : Nat → Prop} {a b : World} {r : Option Nat} (h : a.grownBy b r) (hF : ∀ k, r = some k → F k) : Fr F a b := ⟨h.os, h.tape, h.output, h.size, fun k hk hn => h.block k hk (fun e => hn (hF k e.symm))⟩
theorem Fr.below {F : Nat → Prop} {B : Nat} {a b : World} (h : Fr F a b) (hF : ∀ k, k < B → ¬ F k) (hB : B ≤ a.heap.size) : Below B a b := ⟨h.os, h.tape, h.output, h.size, fun k hk => h.block k (by omega) (hF k hk)⟩
theorem Fr.set {F : Nat → Prop} {a : World} (p : Addr) (u : Value) (hp : F p.block) : Fr F a (a.setCell p u) := ⟨rfl, rfl, rfl, by simp [World.setCell], fun k _ hn => Below.heap_setCell a p u k (fun e => hn (e ▸ hp))⟩
/-- F, and what is new. -/
abbrev And_new (F : Nat → Prop) (W : World) : Nat → Prop := fun b => F b ∨ W.heap.size ≤ b
end Go.Proofs.YtaicjdjfhbmfeaaDoor

/-
  A map from numbers to numbers in memory, as counts.
-/
namespace Go.Proofs.YtaicjdjfhbmfeaaDoor
open Go.RowKit Go.Maps Crv

abbrev Tmii : TypeId := 44
abbrev Tin : TypeId := 3
abbrev keyI (i : Nat) : Lit := .int .i64 (i : Int)
abbrev litI (i : Nat) : DataW Unit := .lit (.int .i64 (i : Int))
theorem keyedI : Keyed Tryd.prog Tin := int_keyed Tryd.underlying3
theorem keyI_of (i : Nat) (hi : i ≤ 65536) : keyOf Tryd.prog Tin (.int .i64 (i : Int)) = some (keyI i) := keyOf_int_mk Tryd.underlying3 (WalkArith.wf_i64 (by omega))
theorem zeroI (w : World) : (zeroValue Tin).run Tryd.prog w = .ok (.int .i64 0) w := by kernel_rfl
theorem keyI_ne {i j : Nat} (h : i ≠ j) : keyI i ≠ keyI j := fun e => h (by injection e with _ e; omega)
/-- A map in block g: at most n entries; what each number has; which are there; how many. -/
def MpI (W : World) (g n : Nat) (c : Nat → Nat) (h : Nat → Bool) (N : Nat) : Prop :=
  ∃ D : DataW Unit, W.ownsMap Tryd.prog Tin (plainElem Tryd.prog Tin) g n D ∧ (∀ j, D.atKey (keyI j) (litI 0) = litI (c j)) ∧ (∀ j, Maps.has D (keyI j) = h j) ∧ Maps.size D = N
section
variable {W W' : World} {g n N : Nat} {c : Nat → Nat} {h : Nat → Bool}
theorem MpI.made (W : World) : MpI (W.alloc (.map #[] 0)) W.heap.size 0 (fun _ => 0) (fun _ => false) 0 := ⟨.map [], World.ownsMap_made W _ _ _, fun _ => rfl, fun _ => rfl, rfl⟩
theorem MpI.of (m : MpI W g n c h N) (hb : W'.heap[g]? = W.heap[g]?) : MpI W' g n c h N := by
  obtain ⟨D, ⟨es, cl, h1, h2⟩, h3⟩ := m
  exact ⟨D, ⟨es, cl, hb.trans h1, h2⟩, h3⟩
theorem MpI.lt (m : MpI W g n c h N) : g < W.heap.size := by
  obtain ⟨D, h1, _⟩ := m
  exact h1.lt
theorem MpI.look (m : MpI W g n c h N) (j : Nat) (hj : j ≤ 65536) : (Instr.lookup Tmii (.map (some g)) (.int .i64 (j : Int)) false).run Tryd.prog W = .ok (.int .i64 (c j : Int)) W := by
  obtain ⟨D, h1, h2, _⟩ := m
  obtain ⟨z, hrun, hat, _⟩ := h1.lookup_int keyedI Tryd.underlying44 Tryd.underlying3 (zeroI W) (keyI_of j hj)
  have h5 : litI (c j) = .lit (.int .i64 z) := (h2 j).symm.trans hat
  simp only [litI, DataW.lit.injEq, Lit.int.injEq, true_and] at h5
  rw [hrun, h5]
theorem MpI.put (m : MpI W g n c h N) (j v : Nat) (hj : j ≤ 65536) (hv : v ≤ 65536) (hn : n ≤ 65536) : ∃ W', (Instr.mapUpdate Tmii (.map (some g)) (.int .i64 (j : Int)) (.int .i64 (v : Int))).run Tryd.prog W = .ok () W' ∧ MpI W' g (n + 1) (fun i => if i = j then v else c i) (fun i => if i = j then true else h i) (if h j then N else N + 1) ∧ W.grownBy W' (some g) := by
  obtain ⟨D, h1, h2, h3, h4⟩ := m
  obtain ⟨W', hrun, ho, hg⟩ := h1.update keyedI Tryd.underlying44 (by simp only [maxLen]; omega) (keyI_of j hj) (plainElem_int (H := Unit) (P := Tryd.prog) (e := Tin) (q := .i64) (a := (v : Int)) Tryd.underlying3 (WalkArith.wf_i64 (by omega)))
  refine ⟨W', hrun, ⟨_, ho, fun i => ?_, fun i => ?_, ?_⟩, hg⟩
  · show (D.put (keyI j) (litI v)).atKey (keyI i) (litI 0) = litI (if i = j then v else c i)
    by_cases e : i = j
    · subst e
      rw [if_pos rfl, atKey_put_same h1.isMap (show WideAt.IsKeyLit (keyI i) from trivial)]
    · rw [if_neg e, atKey_put_other (keyI_ne e), h2]
  · show Maps.has (D.put (keyI j) (litI v)) (keyI i) = if i = j then true else h i
    by_cases e : i = j
    · subst e
      rw [if_pos rfl, has_put_same h1.isMap (show WideAt.IsKeyLit (keyI i) from trivial)]
    · rw [if_neg e, has_put_other (keyI_ne e), h3]
  · rw [size_put (h1.tidy keyedI), h3, h4]
theorem MpI.len (m : MpI W g n c h N) (ty : TypeId) : (Builtin.len_ #[Tmii] ty #[.map (some g)]).run Tryd.prog W = .ok (.int .i64 (N : Int)) W := by
  obtain ⟨D, h1, _, _, h4⟩ := m
  rw [← h4]
  exact h1.len Tryd.underlying44 ty
theorem MpI.le (m : MpI W g n c h N) : N ≤ n := by
  obtain ⟨D, h1, _, _, h4⟩ := m
  rw [← h4]
  exact h1.size_le
end
end Go.Proofs.YtaicjdjfhbmfeaaDoor

/-
  A map from numbers to numbers in memory, as counts, whose keys are all known; a range over it.
-/
namespace Go.Proofs.YtaicjdjfhbmfeaaDoor
open Go.RowKit Go.Maps Crv

/-- As MpI; and no key is below 0. -/
def MpK (W : World) (g n : Nat) (c : Nat → Nat) (h : Nat → Bool) (N : Nat) : Prop :=
  ∃ D : DataW Unit, W.ownsMap Tryd.prog Tin (plainElem Tryd.prog Tin) g n D ∧ (∀ j, D.atKey (keyI j) (litI 0) = litI (c j)) ∧ (∀ j, Maps.has D (keyI j) = h j) ∧ Maps.size D = N ∧ ∀ x : Int, Maps.has D (.int .i64 x) = true → ∃ j : Nat, x = (j : Int)
section
variable {W W' : World} {g n N : Nat} {c : Nat → Nat} {h : Nat → Bool}
theorem MpK.mpI (m : MpK W g n c h N) : MpI W g n c h N := by
  obtain ⟨D, h1, h2, h3, h4, _⟩ := m
  exact ⟨D, h1, h2, h3, h4⟩
theorem MpK.made (W : World) : MpK (W.alloc (.map #[] 0)) W.heap.size 0 (fun _ => 0) (fun _ => false) 0 := ⟨.map [], World.ownsMap_made W _ _ _, fun _ => rfl, fun _ => rfl, rfl, fun x hx => by simp [Maps.has] at hx⟩
theorem MpK.of (m : MpK W g n c h N) (hb : W'.heap[g]? = W.heap[g]?) : MpK W' g n c h N := by
  obtain ⟨D, ⟨es, cl, h1, h2⟩, h3⟩ := m
  exact ⟨D, ⟨es, cl, hb.trans h1, h2⟩, h3⟩
theorem MpK.lt (m : MpK W g n c h N) : g < W.heap.size := m.mpI.lt
theorem MpK.below (m : MpK W g n c h N) (hb : Below W.heap.size W W') : MpK W' g n c h N := m.of (hb.block g m.lt)
theorem MpK.put (m : MpK W g n c h N) (j v : Nat) (hj : j ≤ 65536) (hv : v ≤ 65536) (hn : n ≤ 65536) : ∃ W', (Instr.mapUpdate Tmii (.map (some g)) (.int .i64 (j : Int)) (.int .i64 (v : Int))).run Tryd.prog W = .ok () W' ∧ MpK W' g (n + 1) (fun i => if i = j then v else c i) (fun i => if i = j then true else h i) (if h j then N else N + 1) ∧ W.grownBy W' (some g) := by
  obtain ⟨D, h1, h2, h3, h4, h5⟩ := m
  obtain ⟨W', hrun, ho, hg⟩ := h1.update keyedI Tryd.underlying44 (by simp only [maxLen]; omega) (keyI_of j hj) (plainElem_int (H := Unit) (P := Tryd.prog) (e := Tin) (q := .i64) (a := (v : Int)) Tryd.underlying3 (WalkArith.wf_i64 (by omega)))
  refine ⟨W', hrun, ⟨_, ho, fun i => ?_, fun i => ?_, ?_, fun x hx => ?_⟩, hg⟩
  · show (D.put (keyI j) (litI v)).atKey (keyI i) (litI 0) = litI (if i = j then v else c i)
    by_cases e : i = j
    · subst e
      rw [if_pos rfl, atKey_put_same h1.isMap (show WideAt.IsKeyLit (keyI i) from trivial)]
    · rw [if_neg e, atKey_put_other (keyI_ne e), h2]
  · show Maps.has (D.put (keyI j) (litI v)) (keyI i) = if i = j then true else h i
    by_cases e : i = j
    · subst e
      rw [if_pos rfl, has_put_same h1.isMap (show WideAt.IsKeyLit (keyI i) from trivial)]
    · rw [if_neg e, has_put_other (keyI_ne e), h3]
  · rw [size_put (h1.tidy keyedI), h3, h4]
  · by_cases e : x = (j : Int)
    · exact ⟨j, e⟩
    · have hx' : Maps.has (D.put (keyI j) (litI v)) (.int .i64 x) = true := hx
      rw [has_put_other (fun q => e (by injection q))] at hx'
      exact h5 x hx'
/-- A range over such a map under way: block r is its iterator; what is left is of the map's keys. -/
def RgK (W : World) (g r n : Nat) (c : Nat → Nat) (h : Nat → Bool) (cnt : Nat) : Prop :=
  ∃ (D : DataW Unit) (left : Lit → Bool), W.ranges Tryd.prog Tin (plainElem Tryd.prog Tin) g r n D left cnt ∧ (∀ j, D.atKey (keyI j) (litI 0) = litI (c j)) ∧ (∀ x : Int, left (.int .i64 x) = true → ∃ j : Nat, x = (j : Int) ∧ h j = true)
theorem RgK.below {r cnt : Nat} (m : RgK W g r n c h cnt) (hb : Below W.heap.size W W') : RgK W' g r n c h cnt := by
  obtain ⟨D, left, h1, h2⟩ := m
  exact ⟨D, left, h1.kept (row := none) (grownOfBelow hb) (by simp) (by simp), h2⟩
theorem RgK.left {r cnt : Nat} (m : RgK W g r n c h cnt) : W.rangeLeft g r = cnt := by
  obtain ⟨D, left, h1, h2⟩ := m
  exact h1.left_eq
theorem RgK.ne {r cnt : Nat} (m : RgK W g r n c h cnt) : r < W.heap.size ∧ r ≠ g := by
  obtain ⟨D, left, h1, h2⟩ := m
  exact ⟨h1.lt, h1.ne⟩
section
variable {ops : Array Oper} {rest : List Oper} {o : Oper} {a : Act} {Q : Exit → Act → World → Prop}
/-- 'range m'. -/
theorem wp_range_k (m : MpK W g n c h N) (x : Operand) (hg : o.guard = none) (hop : o.op = Op.range Tmii x) (hm : a.eval x = .map (some g))
    (hK : ∀ w', RgK w' g W.heap.size n c h N → Below W.heap.size W w' → w'.heap.size = W.heap.size + 1 → wpList Tryd.prog ops Q rest (a.put o.dst (.pointer (some ⟨W.heap.size, 0, none⟩))) w') : wpList Tryd.prog ops Q (o :: rest) a W := by
  obtain ⟨D, h1, h2, h3, h4, h5⟩ := m
  refine wpList_range_own _ hg x Tmii hop Tin Tin keyedI Tryd.underlying44 _ g n D hm h1 fun w' r1 r2 r3 => hK w' ⟨D, _, by rw [← h4]; exact r1, h2, fun z hz => ?_⟩ ⟨r2.os, r2.tape, r2.output, r2.size, fun k hk => r2.block k hk (by simp)⟩ r3
  obtain ⟨j, rfl⟩ := h5 z hz
  exact ⟨j, rfl, (h3 j).symm.trans hz⟩
/-- The step: nothing is left, or some key with its count. -/
theorem wp_next_k {r cnt : Nat} (m : RgK W g r n c h cnt) (x : Operand) (hg : o.guard = none) (hop : o.op = Op.next x false) (hit : a.eval x = .pointer (some ⟨r, 0, none⟩))
    (hDone : wpList Tryd.prog ops Q rest (a.put o.dst (.tuple #[.bool false])) W)
    (hMore : ∀ (j : Nat) (w' : World) (cnt' : Nat), h j = true → RgK w' g r n c h cnt' → cnt' < cnt → W.grownBy w' (some r) → (Instr.entry (.pointer (some ⟨r, 0, none⟩))).run Tryd.prog w' = .ok (.tuple #[.int .i64 j, .int .i64 (c j)]) w' →
      wpList Tryd.prog ops Q rest (a.put o.dst (.tuple #[.bool true, .int .i64 j, .int .i64 (c j)])) w') : wpList Tryd.prog ops Q (o :: rest) a W := by
  obtain ⟨D, left, h1, h2, h3⟩ := m
  refine wpList_next_ranges_ii _ hg x hop Tin Tin .i64 .i64 keyedI Tryd.underlying3 Tryd.underlying3 g r n D left cnt hit h1 (fun _ _ => hDone) fun z y w' cnt' _ _ hl hat hrg hlt hgr _ hen => ?_
  obtain ⟨j, rfl, hj⟩ := h3 z hl
  have e : litI (c j) = .lit (.int .i64 y) := (h2 j).symm.trans (hat (litI 0))
  simp only [litI, DataW.lit.injEq, Lit.int.injEq, true_and] at e
  subst e
  exact hMore j w' cnt' hj ⟨D, _, hrg, h2, fun q hq => h3 q (by simp only [Bool.and_eq_true] at hq; exact hq.1)⟩ hlt hgr hen
end
end
end Go.Proofs.YtaicjdjfhbmfeaaDoor
