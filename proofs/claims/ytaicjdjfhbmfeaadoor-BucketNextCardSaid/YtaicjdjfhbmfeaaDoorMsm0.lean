/-
  Mathematics of a mesh: what each call leaves and answers.
-/
import Derived.Test.YtaicjdjfhbmfeaaDoorBase
namespace Go.Proofs.YtaicjdjfhbmfeaaDoor
open Crv

/-- A mesh: so many addresses; what waits at each from each; one more than who was served last at each (0: nobody); how many were lost. -/
structure MS where
  n : Nat
  q : Nat → Nat → List (List UInt8)
  s1 : Nat → Nat
  lost : Nat
def upd2 {α : Type} (q : Nat → Nat → α) (t f : Nat) (l : α) : Nat → Nat → α := fun t' f' => if t' = t ∧ f' = f then l else q t' f'
def upd1 (s : Nat → Nat) (t v : Nat) : Nat → Nat := fun t' => if t' = t then v else s t'
theorem upd2_same {α : Type} (q : Nat → Nat → α) (t f : Nat) (l : α) : upd2 q t f l t f = l := by simp [upd2]
theorem upd2_other {α : Type} (q : Nat → Nat → α) {t f t' f' : Nat} (l : α) (h : ¬ (t' = t ∧ f' = f)) : upd2 q t f l t' f' = q t' f' := by simp [upd2, h]
theorem upd1_same (s : Nat → Nat) (t v : Nat) : upd1 s t v t = v := by simp [upd1]
theorem upd1_other (s : Nat → Nat) {t t' : Nat} (v : Nat) (h : t' ≠ t) : upd1 s t v t' = s t' := by simp [upd1, h]
/-- Is it an address? -/
def isAdr (n : Nat) (a : Int) : Bool := decide (0 ≤ a) && decide (a < n)
theorem isAdr_nat {n a : Nat} (h : a < n) : isAdr n a = true := by simp [isAdr, h]
theorem isAdr_true {n : Nat} {a : Int} (h : isAdr n a = true) : ∃ k : Nat, a = k ∧ k < n := by
  simp [isAdr] at h
  exact ⟨a.toNat, by omega, by omega⟩
/-- A mesh without packets. -/
def newM (n : Nat) : MS := ⟨n, fun _ _ => [], fun _ => 0, 0⟩
/-- Send to one address: the mesh, the error. -/
def sendM (x : MS) (fr : Int) (text : List UInt8) (to : Int) : MS × Nat :=
  if isAdr x.n to = false ∨ isAdr x.n fr = false then (x, 10)
  else if 1024 < text.length then ({ x with lost := x.lost + 1 }, 5)
  else if 8 ≤ (x.q to.toNat fr.toNat).length then ({ x with lost := x.lost + 1 }, 14)
  else ({ x with q := upd2 x.q to.toNat fr.toNat (x.q to.toNat fr.toNat ++ [text]) }, 0)
/-- How far behind the one served last the next source is. -/
def nextI (x : MS) (t : Nat) : Option Nat := (List.range x.n).find? fun i => !(x.q t ((x.s1 t + i) % x.n)).isEmpty
def nextM (x : MS) (t : Nat) : Option Nat := (nextI x t).map fun i => (x.s1 t + i) % x.n
/-- A packet less. -/
def dropM (x : MS) (t f i : Nat) : MS := { x with q := upd2 x.q t f ((x.q t f).eraseIdx i) }
def serveM (x : MS) (t f : Nat) : MS := { x with s1 := upd1 x.s1 t (f + 1) }
def takeM (x : MS) (t : Nat) : MS × Option (Nat × List UInt8) :=
  match nextM x t with
  | none => (x, none)
  | some f => (dropM (serveM x t f) t f 0, some (f, (x.q t f).getD 0 []))
/-- How many of the first k sources wait at an address; at the first k addresses. -/
def rowS (x : MS) (t : Nat) : Nat → Nat
  | 0 => 0
  | k + 1 => rowS x t k + (x.q t k).length
def totS (x : MS) : Nat → Nat
  | 0 => 0
  | k + 1 => totS x k + rowS x k x.n
def allM (x : MS) : Nat := totS x x.n

theorem nextI_some {x : MS} {t i : Nat} (hi : i < x.n) (he : ∀ j, j < i → x.q t ((x.s1 t + j) % x.n) = []) (hne : x.q t ((x.s1 t + i) % x.n) ≠ []) : nextI x t = some i := by
  unfold nextI
  rw [List.find?_range_eq_some]
  refine ⟨by simp [hne], by simp [hi], fun j hj => by simp [he j hj]⟩
theorem nextI_none {x : MS} {t : Nat} (he : ∀ j, j < x.n → x.q t ((x.s1 t + j) % x.n) = []) : nextI x t = none := by
  unfold nextI
  rw [List.find?_range_eq_none]
  intro j hj
  simp [he j hj]
theorem nextI_spec {x : MS} {t i : Nat} (h : nextI x t = some i) : i < x.n ∧ x.q t ((x.s1 t + i) % x.n) ≠ [] ∧ ∀ j, j < i → x.q t ((x.s1 t + j) % x.n) = [] := by
  unfold nextI at h
  rw [List.find?_range_eq_some] at h
  obtain ⟨h1, h2, h3⟩ := h
  refine ⟨by simpa using h2, by simpa using h1, fun j hj => by simpa using h3 j hj⟩
theorem nextI_empty {x : MS} {t : Nat} (h : nextI x t = none) : ∀ j, j < x.n → x.q t ((x.s1 t + j) % x.n) = [] := by
  unfold nextI at h
  rw [List.find?_range_eq_none] at h
  intro j hj
  simpa using h j hj
/-- Every source comes in the round. -/
theorem round_has (s n f : Nat) (hf : f < n) : ∃ i, i < n ∧ (s + i) % n = f := by
  have hn : 0 < n := by omega
  have hm := Nat.mod_lt s hn
  refine ⟨(f + (n - s % n)) % n, Nat.mod_lt _ hn, ?_⟩
  have e := Nat.div_add_mod s n
  rw [Nat.add_mod_mod]
  have e2 : s + (f + (n - s % n)) = f + n * (s / n + 1) := by
    rw [Nat.mul_add, Nat.mul_one]
    omega
  rw [e2, Nat.add_mul_mod_self_left, Nat.mod_eq_of_lt hf]
theorem nextM_spec {x : MS} {t f : Nat} (h : nextM x t = some f) : f < x.n ∧ x.q t f ≠ [] := by
  unfold nextM at h
  cases hi : nextI x t with
  | none => simp [hi] at h
  | some i =>
    obtain ⟨h1, h2, _⟩ := nextI_spec hi
    simp only [hi, Option.map_some, Option.some.injEq] at h
    subst h
    exact ⟨Nat.mod_lt _ (by omega), h2⟩
theorem nextM_none {x : MS} {t : Nat} (h : nextM x t = none) (f : Nat) (hf : f < x.n) : x.q t f = [] := by
  unfold nextM at h
  cases hi : nextI x t with
  | none =>
    obtain ⟨i, h1, rfl⟩ := round_has (x.s1 t) x.n f hf
    exact nextI_empty hi i h1
  | some i => simp [hi] at h
theorem nextM_empty {x : MS} {t : Nat} (h : ∀ f, f < x.n → x.q t f = []) : nextM x t = none := by
  cases hi : nextM x t with
  | none => rfl
  | some f => exact absurd (h f (nextM_spec hi).1) (nextM_spec hi).2
theorem nextM_only {x : MS} {t f : Nat} (hf : f < x.n) (hq : x.q t f ≠ []) (ho : ∀ f', f' < x.n → f' ≠ f → x.q t f' = []) : nextM x t = some f := by
  cases hi : nextM x t with
  | none => exact absurd (nextM_none hi f hf) hq
  | some g =>
    obtain ⟨h1, h2⟩ := nextM_spec hi
    rw [Classical.byContradiction (fun h : ¬ g = f => h2 (ho g h1 h))]
theorem rowS_zero {x : MS} {t : Nat} : ∀ k, (∀ f, f < k → x.q t f = []) → rowS x t k = 0
  | 0, _ => rfl
  | k + 1, h => by
    show rowS x t k + (x.q t k).length = 0
    rw [rowS_zero k (fun f hf => h f (by omega)), h k (by omega)]
    rfl
theorem allM_zero {x : MS} (h : ∀ t f, t < x.n → f < x.n → x.q t f = []) : allM x = 0 := by
  have : ∀ k, k ≤ x.n → totS x k = 0 := by
    intro k
    induction k with
    | zero => intro _; rfl
    | succ k ih =>
      intro hk
      show totS x k + rowS x k x.n = 0
      rw [ih (by omega), rowS_zero x.n (fun f hf => h k f (by omega) hf)]
  exact this _ (Nat.le_refl _)
theorem rowS_le {x : MS} {t : Nat} (h : ∀ f, (x.q t f).length ≤ 8) : ∀ k, rowS x t k ≤ 8 * k
  | 0 => Nat.le_refl _
  | k + 1 => by
    have := rowS_le h k
    have h2 := h k
    show rowS x t k + (x.q t k).length ≤ _
    omega
theorem totS_le {x : MS} (h : ∀ t f, (x.q t f).length ≤ 8) (hn : x.n ≤ 64) : ∀ k, totS x k ≤ 512 * k
  | 0 => Nat.le_refl _
  | k + 1 => by
    have := totS_le h hn k
    have h2 := rowS_le (h k) x.n
    show totS x k + rowS x k x.n ≤ _
    omega
/-- Sending to several addresses, one by one. -/
theorem sendM_n (x : MS) (fr : Int) (text : List UInt8) (to : Int) : (sendM x fr text to).1.n = x.n := by
  unfold sendM
  repeat' split
  all_goals rfl
theorem takeM_n (x : MS) (t : Nat) : (takeM x t).1.n = x.n := by
  unfold takeM
  split <;> rfl
end Go.Proofs.YtaicjdjfhbmfeaaDoor
