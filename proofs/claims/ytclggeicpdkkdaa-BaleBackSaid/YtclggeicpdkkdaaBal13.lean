/-
  The memory of BalePuts' third loop: names, and their bytes as texts.
-/
import Derived.Test.YtclggeicpdkkdaaBal12
namespace Go.Proofs.Ytclggeicpdkkdaa
open Go.RowKit Crv

abbrev Ts : TypeId := 9
/-- string(b[:]) of a name in memory. -/
theorem arr_string {w : World} {g n : Nat} {t : TypeId} {l : List UInt8} (h : Mem w g t (l.map byteV)) (hn : l.length = n) :
    (convert 32 9 (.slice (some ⟨g, 0, none⟩) n n)).run Try.prog w = .ok (.string (str l)) w := by
  subst hn
  have hnums : strOfNums (l.map fun b => (b.toNat : Int)) = str l := by
    simp only [strOfNums, List.map_map, str]
    congr 2
    have : ((fun n : Int => UInt8.ofNat n.toNat) ∘ fun b : UInt8 => (b.toNat : Int)) = id := by
      funext b; simp
    rw [this, List.map_id]
  have := run_convert_bytes_arg (P := Try.prog) w 32 5 Try.underlying32 Try.underlying5 g 0 l.length l.length (l.map fun b => (b.toNat : Int)) (by simp) (fun i hi => by
    rw [Nat.zero_add, h.cell, List.getElem?_map, List.getElem?_eq_getElem hi, List.getD_eq_getElem?_getD, List.getElem?_map, List.getElem?_eq_getElem hi]
    rfl) 9 Try.underlying9
  rw [this, hnums]
theorem fold_set : ∀ (l : List Value) (k : Nat) (arr : Array Value), arr.size = k + l.length → List.foldl (fun (cs : Array Value) (x : Value × Nat) => cs.setIfInBounds x.snd x.fst) arr (l.zipIdx k) = (arr.toList.take k ++ l).toArray
  | [], k, arr, h => by
    have e : arr.toList.take k = arr.toList := List.take_of_length_le (by simpa using Nat.le_of_eq h)
    simp [e]
  | a :: l, k, arr, h => by
    have h' : arr.size = k + l.length + 1 := by simpa [Nat.add_assoc] using h
    rw [List.zipIdx_cons, List.foldl_cons, fold_set l (k + 1) (arr.setIfInBounds k a) (by simp; omega)]
    congr 1
    rw [Array.toList_setIfInBounds, List.take_succ_eq_append_getElem (by simp; omega), List.take_set_of_le (Nat.le_refl _)]
    simp
/-- []api.ID{x}. -/
theorem run_build_id (x : List UInt8) (hx : x.length = 32) (W : World) : (Instr.buildSlice 28 1 #[(0, .agg (x.map byteV).toArray)]).run Try.prog W = .ok (.slice (some ⟨W.heap.size, 0, none⟩) 1 1) (W.alloc (.cells (x.map byteV).toArray Ti)) := by
  have h := fold_set (x.map byteV) 0 zs32 (by simp [hx])
  simp only [List.take_zero, List.nil_append, zs32] at h
  simp [go_sem, Instr.buildSlice, hx, h]
theorem wp_build_id {ops : Array Oper} {rest : List Oper} {o : Oper} {a : Act} {w : World} {Q : Exit → Act → World → Prop} (x : List UInt8) (hx : x.length = 32) (y : Operand) (hgd : o.guard = none) (ho : o.op = .buildSlice 28 1 #[(0, y)]) (hy : a.eval y = .agg (x.map byteV).toArray)
    (h : wpList Try.prog ops Q rest (a.put o.dst (.slice (some ⟨w.heap.size, 0, none⟩) 1 1)) (w.alloc (.cells (x.map byteV).toArray Ti))) : wpList Try.prog ops Q (o :: rest) a w := by
  refine wpList_plain hgd fun K hK => ?_
  have hr := run_build_id x hx w
  unfold Oper.wp execOp
  simp only [ho, List.map_toArray, List.map_cons, List.map_nil, hy, hr, Sem.run_bind, Sem.run_pure, Result.andThen_ok]
  exact hK _ _ h
theorem grownOld {a b c : World} {N : Nat} {row : Option Nat} (h : a.grownBy b (some N)) (h' : b.grownBy c row) (hrow : ∀ g, row = some g → g = N ∨ a.heap.size ≤ g) : a.grownBy c (some N) :=
  ⟨h'.os.trans h.os, h'.tape.trans h.tape, h'.output.trans h.output, Nat.le_trans h.size h'.size, fun k hk hne => (h'.block k (Nat.lt_of_lt_of_le hk h.size) (fun e => by
    rcases hrow k e.symm with h1 | h1
    · exact hne (by rw [h1])
    · omega)).trans (h.block k hk hne)⟩
theorem Owns.grownN {w w' : World} {base N : Nat} {e : TypeId} {v : Value} {xs : List Value} (h : Owns w base e v xs) (hg : w.grownBy w' (some N)) (hN : N < base) : Owns w' base e v xs :=
  h.of_below fun g hg' => hg.block g (h.lt g hg').1 (fun e => by injection e with e; have := (h.lt g hg').2; omega)

def L3 (w3 : World) (N : Nat) (vs va : Value) (xs ys : List (List UInt8)) (w : World) : Prop :=
  Ids w w3.heap.size vs xs ∧ Owns w N Ts va (ys.map tx) ∧ w3.grownBy w (some N) ∧ (∀ g, va.ownBlock = some g → g = N ∨ w3.heap.size ≤ g) ∧ (∀ g, vs.ownBlock = some g → va.ownBlock ≠ some g)
theorem L3.below {w3 w w' : World} {N : Nat} {vs va : Value} {xs ys : List (List UInt8)} (h : L3 w3 N vs va xs ys w) (hb : Below w.heap.size w w') : L3 w3 N vs va xs ys w' :=
  ⟨h.1.below hb, h.2.1.below hb, grown_below h.2.2.1 hb, h.2.2.2⟩
theorem L3.id {w3 w w' : World} {N : Nat} {vs vs' va : Value} {xs xs' ys : List (List UInt8)} (h : L3 w3 N vs va xs ys w) (hi : Ids w' w3.heap.size vs' xs') (hg : w.grownBy w' vs.ownBlock) (hat : vs'.ownBlock = vs.ownBlock ∨ vs'.ownBlock = some w.heap.size) : L3 w3 N vs' va xs' ys w' := by
  obtain ⟨h1, h2, h3, h4, h5⟩ := h
  refine ⟨hi, h2.of_below fun g hg' => hg.block g (h2.lt g hg').1 (fun e => h5 g e.symm hg'), grownOld h3 hg (fun g e => .inr (h1.lt g e).2), h4, ?_⟩
  intro g hg1 hg2
  rcases hat with e | e
  · exact h5 g (e ▸ hg1) hg2
  · have := (h2.lt g hg2).1
    rw [e] at hg1
    injection hg1 with hg1
    omega
theorem L3.str {w3 w w' : World} {N : Nat} {vs va va' : Value} {xs ys ys' : List (List UInt8)} (h : L3 w3 N vs va xs ys w) (hi : Owns w' N Ts va' (ys'.map tx)) (hg : w.grownBy w' va.ownBlock) (hat : va'.ownBlock = va.ownBlock ∨ va'.ownBlock = some w.heap.size) : L3 w3 N vs va' xs ys' w' := by
  obtain ⟨h1, h2, h3, h4, h5⟩ := h
  refine ⟨h1.of_block fun g hg' => hg.block g (h1.lt g hg').1 (fun e => h5 g hg' e.symm), hi, grownOld h3 hg h4, ?_, ?_⟩
  · intro g hg1
    rcases hat with e | e
    · exact h4 g (e ▸ hg1)
    · rw [e] at hg1
      injection hg1 with hg1
      have := h3.size
      right; omega
  · intro g hg1 hg2
    rcases hat with e | e
    · exact h5 g hg1 (e ▸ hg2)
    · have := (h1.lt g hg1).1
      rw [e] at hg2
      injection hg2 with hg2
      omega
theorem L3.begin {w3 : World} {N : Nat} (hN : Mem w3 N Ts []) : L3 w3 N (.slice (some ⟨w3.heap.size, 0, none⟩) 0 0) (.slice (some ⟨N, 0, none⟩) 0 0) [] [] (w3.alloc (.cells #[] Ti)) :=
  ⟨Ids.new (Nat.le_refl _), Owns.of_mem (hN.alloc _) (Nat.le_refl _) 0 0 (Nat.le_refl _) rfl (by simp [maxLen]) rfl, grownOfBelow (belowSelf _ _), fun g hg => .inl (by simpa [Value.ownBlock] using hg.symm), fun g hg e => by
    have h1 : w3.heap.size = g := by simpa [Value.ownBlock] using hg
    have h2 : N = g := by simpa [Value.ownBlock] using e
    have := hN.lt
    omega⟩
end Go.Proofs.Ytclggeicpdkkdaa
