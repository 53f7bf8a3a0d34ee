/-
  Quota: what an address has at a tick, what is left of it (mathematics).
-/
import Derived.Test.YtbodoodgdojgoaaMap0
namespace Crv
open Go Go.Maps

/-- What each address had left, and at which tick. -/
abbrev SHt := List (Int × (Int × Int))
def eS : Enc Int (Int × Int) := ⟨fun a => .int .i64 a, fun p => .agg [.lit (.int .i64 p.1), .lit (.int .i64 p.2)], fun a b h => by injection h, fun _ => trivial⟩
/-- One share at a tick. -/
def growQ (each most : Int) (p : Int × Int) (now : Int) : Int := min (p.1 + min (max now p.2 - p.2) most * each) most
/-- What an address has at a tick. -/
def hasQ (each most : Int) (T : SHt) (n now : Int) : Int :=
  match getK n T with
  | none => most
  | some p => growQ each most p now
/-- The date behind a Take. -/
def dateQ (T : SHt) (n now : Int) : Int := max ((getK n T).getD (0, 0)).2 now
def okQ (each most : Int) (T : SHt) (n cost now : Int) : Bool := !(decide (cost < 0) || decide (hasQ each most T n now < cost))
def takeQ (each most : Int) (T : SHt) (n cost now : Int) : SHt := if okQ each most T n cost now = true then eS.set n (hasQ each most T n now - cost, dateQ T n now) T else T
/-- A rate that may be. -/
def RtQ (each most : Int) : Prop := 1 ≤ each ∧ each ≤ most ∧ most ≤ 1048576
/-- What such a table keeps. -/
def OkQ (most : Int) (T : SHt) : Prop := ∀ n p, getK n T = some p → 0 ≤ p.1 ∧ p.1 ≤ most ∧ 0 ≤ p.2 ∧ p.2 ≤ 1099511627776
theorem okQ_nil (most : Int) : OkQ most [] := fun n p h => by simp [getK] at h
theorem mul_le_of {a b c : Int} (h : a ≤ b) (hc : 0 ≤ c) : a * c ≤ b * c := Int.mul_le_mul_of_nonneg_right h hc
theorem growQ_in {each most : Int} {p : Int × Int} (hr : RtQ each most) (hp : 0 ≤ p.1 ∧ p.1 ≤ most ∧ 0 ≤ p.2 ∧ p.2 ≤ 1099511627776) (now : Int) : 0 ≤ growQ each most p now ∧ growQ each most p now ≤ most := by
  unfold growQ
  obtain ⟨h1, h2, h3⟩ := hr
  have : 0 ≤ min (max now p.2 - p.2) most * each := Int.mul_nonneg (by omega) (by omega)
  omega
theorem hasQ_in {each most : Int} {T : SHt} (hr : RtQ each most) (hT : OkQ most T) (n now : Int) : 0 ≤ hasQ each most T n now ∧ hasQ each most T n now ≤ most := by
  have hr0 := hr
  obtain ⟨h1, h2, h3⟩ := hr
  unfold hasQ
  cases h : getK n T with
  | none => exact ⟨by simp only; omega, by simp only; omega⟩
  | some p => exact growQ_in hr0 (hT n p h) now
theorem dateQ_in {most : Int} {T : SHt} (hT : OkQ most T) (n : Int) {now : Int} (hn : 0 ≤ now ∧ now ≤ 1099511627776) : now ≤ dateQ T n now ∧ dateQ T n now ≤ 1099511627776 := by
  unfold dateQ
  cases h : getK n T with
  | none => simp only [Option.getD_none]; omega
  | some p => have := hT n p h; simp only [Option.getD_some]; omega
theorem okQ_le {each most : Int} {T : SHt} {n cost now : Int} (h : okQ each most T n cost now = true) : 0 ≤ cost ∧ cost ≤ hasQ each most T n now := by
  unfold okQ at h
  simp only [Bool.not_eq_true', Bool.or_eq_false_iff, decide_eq_false_iff_not] at h
  omega
theorem uniq_take {each most : Int} {T : SHt} {n cost now : Int} (hu : Uniq T) : Uniq (takeQ each most T n cost now) := by
  unfold takeQ
  split
  · exact hu.set eS n _
  · exact hu
theorem takeQ_get {each most : Int} {T : SHt} (hu : Uniq T) (n cost now k : Int) : getK k (takeQ each most T n cost now) = if okQ each most T n cost now = true ∧ k = n then some (hasQ each most T n now - cost, dateQ T n now) else getK k T := by
  unfold takeQ
  by_cases h : okQ each most T n cost now = true
  · rw [if_pos h, getK_set eS hu]
    by_cases hk : k = n <;> simp [hk, h]
  · rw [if_neg h, if_neg (fun q => h q.1)]
theorem OkQ.take {each most : Int} {T : SHt} (hr : RtQ each most) (hT : OkQ most T) (hu : Uniq T) (n cost : Int) {now : Int} (hn : 0 ≤ now ∧ now ≤ 1099511627776) : OkQ most (takeQ each most T n cost now) := by
  intro k p h
  rw [takeQ_get hu] at h
  split at h
  · rename_i hc
    injection h with h
    subst h
    have h1 := okQ_le hc.1
    have h2 := hasQ_in hr hT n now
    have h3 := dateQ_in hT n hn
    exact ⟨by simp only; omega, by simp only; omega, by simp only; omega, by simp only; omega⟩
  · exact hT k p h
theorem length_take {each most : Int} {T : SHt} (hu : Uniq T) (n cost now : Int) : (takeQ each most T n cost now).length ≤ T.length + 1 := by
  unfold takeQ
  split
  · rw [length_set eS hu]; split <;> omega
  · omega
/-! ### The document's list -/
theorem getK_app2 {κ ν : Type} [DecidableEq κ] (k : κ) (l r : List (κ × ν)) : getK k (l ++ r) = (getK k l).or (getK k r) := by
  unfold getK
  rw [List.find?_append]
  cases l.find? fun p => decide (p.1 = k) <;> rfl
/-- The list behind a Take. -/
def takeL (each most : Int) (l : SHt) (n cost now : Int) : SHt := if okQ each most l n cost now = true then delK n l ++ [(n, (hasQ each most l n now - cost, dateQ l n now))] else l
/-- The list says of each address what the table says. -/
def SameQ (l T : SHt) : Prop := Uniq l ∧ ∀ n, getK n l = getK n T
theorem SameQ.has {each most : Int} {l T : SHt} (h : SameQ l T) (n now : Int) : hasQ each most l n now = hasQ each most T n now := by unfold hasQ; rw [h.2 n]
theorem SameQ.date {l T : SHt} (h : SameQ l T) (n now : Int) : dateQ l n now = dateQ T n now := by unfold dateQ; rw [h.2 n]
theorem SameQ.ok {each most : Int} {l T : SHt} (h : SameQ l T) (n cost now : Int) : okQ each most l n cost now = okQ each most T n cost now := by unfold okQ; rw [h.has n now]
theorem getK_self {κ ν : Type} [DecidableEq κ] (k : κ) (v : ν) : getK k [(k, v)] = some v := by simp [getK]
theorem getK_one {κ ν : Type} [DecidableEq κ] {k j : κ} (v : ν) (h : j ≠ k) : getK k [(j, v)] = none := by simp [getK, h]
theorem SameQ.take {each most : Int} {l T : SHt} (h : SameQ l T) (hu : Uniq T) (n cost now : Int) : SameQ (takeL each most l n cost now) (takeQ each most T n cost now) := by
  unfold takeL
  by_cases hk : okQ each most l n cost now = true
  · rw [if_pos hk]
    refine ⟨?_, fun k => ?_⟩
    · refine List.pairwise_append.2 ⟨h.1.del n, by simp, fun p hp q hq => ?_⟩
      simp only [List.mem_singleton] at hq
      subst hq
      have := (List.mem_filter.1 hp).2
      simpa using this
    · rw [takeQ_get hu, h.ok] at *
      rw [getK_app2, getK_del]
      by_cases hkn : k = n
      · subst hkn
        rw [if_pos rfl, if_pos ⟨hk, rfl⟩, Option.none_or, getK_self, h.has, h.date]
      · rw [if_neg hkn, if_neg (fun q => hkn q.2), getK_one _ (fun q => hkn q.symm), h.2 k, Option.or_none]
  · rw [if_neg hk]
    refine ⟨h.1, fun k => ?_⟩
    rw [takeQ_get hu, ← h.ok, if_neg (fun q => hk q.1), h.2 k]
/-- One more tick. -/
theorem growQ_step {each most : Int} {p : Int × Int} (hr : RtQ each most) (k : Nat) : min (min (p.1 + k * each) most + each) most = min (p.1 + ((k : Int) + 1) * each) most := by
  have : ((k : Int) + 1) * each = k * each + each := by rw [Int.add_mul, Int.one_mul]
  have h := hr.1
  omega
/-- The ticks are over, or all is there. -/
theorem growQ_end {each most : Int} {p : Int × Int} (hr : RtQ each most) (hp : 0 ≤ p.1 ∧ p.1 ≤ most) {now : Int} {k : Nat} (hk : (k : Int) ≤ max now p.2 - p.2) (he : now ≤ p.2 + k ∨ most ≤ p.1 + k * each) : min (p.1 + k * each) most = growQ each most p now := by
  obtain ⟨h1, h2, h3⟩ := hr
  unfold growQ
  have hm : most * 1 ≤ most * each := Int.mul_le_mul_of_nonneg_left h1 (by omega)
  by_cases hkm : (k : Int) ≤ most
  · rcases he with he | he
    · have : min (max now p.2 - p.2) most = k := by omega
      rw [this]
    · have hle : (k : Int) * each ≤ min (max now p.2 - p.2) most * each := mul_le_of (by omega) (by omega)
      omega
  · have hkk : most * each ≤ k * each := mul_le_of (by omega) (by omega)
    have : min (max now p.2 - p.2) most = most := by omega
    rw [this]
    omega
/-! ### QuotaBound -/
/-- Time alone brings no more than Each a tick. -/
theorem growQ_more {each most : Int} {p : Int × Int} (hr : RtQ each most) {now d : Int} (hn : p.2 ≤ now) (hd : 0 ≤ d) : growQ each most p (now + d) ≤ growQ each most p now + d * each := by
  obtain ⟨h1, h2, h3⟩ := hr
  unfold growQ
  have ha : max (now + d) p.2 - p.2 = now + d - p.2 := by omega
  have hb : max now p.2 - p.2 = now - p.2 := by omega
  rw [ha, hb]
  have hle : min (now + d - p.2) most * each ≤ (min (now - p.2) most + d) * each := mul_le_of (by omega) (by omega)
  have hde : 0 ≤ d * each := Int.mul_nonneg hd (by omega)
  rw [Int.add_mul] at hle
  omega
end Crv
