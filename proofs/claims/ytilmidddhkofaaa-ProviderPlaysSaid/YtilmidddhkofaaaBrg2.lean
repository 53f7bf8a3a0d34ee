/-
  In the wide fence a region goes as it does without one.
-/
import Derived.Test.YtilmidddhkofaaaBrg
namespace Crv
open Go Go.RowKit

section
variable {P : Program} {Q : Exit → Act → World → Prop} {ops : Array Oper} {a : Act} {w : World} {n : Nat}
theorem op_ofW {o : Oper} {K K' : Act → World → Prop} (hK : ∀ a w, K a w → K' a w) (hd : ∀ c, o.op ≠ .defer c) (h : o.wp P a w K Q) : o.wpIn Fence.wide n P a w K' Q := by
  refine ⟨fun f _ => trivial, ?_⟩
  rw [Oper.semAt_eq _ _ _ hd]
  unfold Oper.wp at h
  generalize (execOp a.eval o).run P w = r at *
  cases r with
  | ok nx w' =>
    cases nx with
    | value v => exact hK _ _ h
    | skip => exact hK _ _ h
    | defer d => exact hK _ _ h
    | enter f args =>
      refine ⟨fun hx => by simp [Fence.wide] at hx, ?_⟩
      refine CallsIn.mono (callsIn_wide.2 h) (fun e w'' hh => ?_)
      cases e with
      | returned v => exact hK _ _ hh
      | panicked c => exact hh
      | outgrown => exact hh
    | row row args =>
      refine ⟨fun hx => by simp [Fence.wide] at hx, ?_⟩
      intro c cs _
      obtain ⟨v, w'', hr, hs⟩ := h c cs
      exact ⟨v, w'', hK _ _ hr, stepsIn_wide.2 hs⟩
    | _ => exact h.elim
  | halt x w' => cases x <;> exact h
theorem list_ofW (hQ : ¬ LetsOut Q) : ∀ (rest : List Oper) (a : Act) (w : World), (∀ o ∈ rest, ∀ c, o.op ≠ .defer c) → wpList P ops Q rest a w → wpListIn Fence.wide n P ops Q rest a w
  | [], _, _, _, h => h
  | o :: rest, a, w, hd, h => by
    have ih := list_ofW hQ rest
    unfold wpList at h
    unfold wpListIn
    split at h
    · rename_i hw
      rw [if_pos hw]
      rcases h with h | h
      · exact op_ofW (fun a w hh => ih a w (fun o ho => hd o (by simp [ho])) hh) (hd o (by simp)) h
      · exact absurd h.2 hQ
    · rename_i hw
      rw [if_neg hw]
      exact ⟨fun _ _ => trivial, ih _ _ (fun o ho => hd o (by simp [ho])) h⟩
/-- A region inside a round, in the text's order. -/
theorem region_ofW {id : Nat} (hd : noDefer ops = true) (hQ : ¬ LetsOut Q) (h : wpList P ops Q ops.toList a w) : (Code.region id ops false).wpIn Fence.wide n P Q a w := by
  refine wpIn_region ?_
  have e := wpOpsIn_eq_wpListIn (F := Fence.wide) (n := n) (P := P) (ops := ops) (Q := Q) ops.toList 0 (fun j => by simp)
  rw [show List.range ops.size = List.range' 0 ops.toList.length from by rw [List.range_eq_range']; simp, e]
  exact list_ofW hQ _ _ _ (noDefer_spec hd) h
theorem regionL_ofW {id : Nat} {c : List Oper} (hd : noDefer c.toArray = true) (hQ : ¬ LetsOut Q) (h : wpList P c.toArray Q c a w) : (Code.region id c.toArray false).wpIn Fence.wide n P Q a w :=
  region_ofW hd hQ h
theorem any_ofW {md : Region.Mode} (hd : noDefer ops = true) (hQ : ¬ LetsOut Q) : ∀ (fuel : Nat) (listed : Array Bool) (a : Act) (w : World), wpAny P md ops Q fuel listed a w → wpAnyIn Fence.wide n P md ops Q fuel listed a w
  | 0, _, _, _, h => h
  | fuel + 1, listed, a, w, h => by
    refine ⟨h.1, fun i hi => ?_⟩
    have h2 := h.2 i hi
    have ih := any_ofW (md := md) hd hQ fuel (listed.setIfInBounds i true)
    unfold wpOp at h2
    unfold wpOpIn
    cases ho : ops[i]? with
    | none =>
      rw [ho] at h2
      exact ih _ _ h2
    | some o =>
      rw [ho] at h2
      simp only at h2 ⊢
      split at h2
      · rename_i hw
        rw [if_pos hw]
        rcases h2 with h2 | h2
        · exact op_ofW (fun a w hh => ih a w hh) (noDefer_spec hd o (by simpa using Array.mem_of_getElem? ho)) h2
        · exact absurd h2.2 hQ
      · rename_i hw
        rw [if_neg hw]
        exact ⟨fun _ _ => trivial, ih _ _ h2⟩
/-- A region inside a round that draws its order. -/
theorem region_held_ofW {id : Nat} {S : World → Prop} (hd : noDefer ops = true) (hQ : ¬ LetsOut Q) (hm : P.follows .mixedOrders = true) (hS : S w.drew)
    (h : S w.drew → wpAnyH P .any ops Q S ops.size (Array.replicate ops.size false) a w.drew) : (Code.region id ops true).wpIn Fence.wide n P Q a w :=
  wpIn_region_any hm (any_ofW hd hQ _ _ _ _ (wpAny_of_held _ _ _ _ (h hS)))
end
end Crv
