/-
  Words of our own for memory: a block that is known whole, and what keeps it.
-/
import Derived.Below
import Derived.Deep.Draws
import Derived.Laws.Rows
import Derived.Laws.Tables
import Derived.Laws.NewBlocks
import Derived.WalkKit
namespace Crv
open Go Go.RowKit

/-- Block g holds just the cells cs (of element type t), none of them frozen. -/
def Mem (w : World) (g : Nat) (t : TypeId) (cs : List Value) : Prop := w.heap[g]? = some (.cells cs.toArray t (0, 0))

theorem Mem.lt {w : World} {g : Nat} {t : TypeId} {cs : List Value} (h : Mem w g t cs) : g < w.heap.size := by
  unfold Mem at h
  exact (Array.getElem?_eq_some_iff.1 h).1
theorem Mem.cell {w : World} {g : Nat} {t : TypeId} {cs : List Value} (h : Mem w g t cs) (i : Nat) : w.cell? ⟨g, i, none⟩ = cs[i]? := by
  unfold Mem at h
  simp [World.cell?, h]
theorem Mem.frozen {w : World} {g : Nat} {t : TypeId} {cs : List Value} (h : Mem w g t cs) (i : Nat) : w.frozen? ⟨g, i, none⟩ = false := by
  unfold Mem at h
  simp [World.frozen?, h]
theorem Mem.drewN {w : World} {g : Nat} {t : TypeId} {cs : List Value} (h : Mem w g t cs) (n : Nat) : Mem (w.drewN n) g t cs := h
theorem Mem.drew {w : World} {g : Nat} {t : TypeId} {cs : List Value} (h : Mem w g t cs) : Mem w.drew g t cs := h
theorem Mem.new (w : World) (t : TypeId) (cs : List Value) : Mem (w.alloc (.cells cs.toArray t)) w.heap.size t cs := by
  unfold Mem World.alloc
  simp
theorem Mem.newAt (w : World) {g : Nat} (t : TypeId) (cs : List Value) (h : g = w.heap.size) : Mem (w.alloc (.cells cs.toArray t)) g t cs := h ▸ Mem.new w t cs
theorem Mem.alloc {w : World} {g : Nat} {t : TypeId} {cs : List Value} (h : Mem w g t cs) (o : Obj) : Mem (w.alloc o) g t cs := by
  have hl := h.lt
  unfold Mem at h ⊢
  unfold World.alloc
  simp [Array.getElem?_push, Nat.ne_of_lt hl, h]
theorem Mem.set {w : World} {g : Nat} {t : TypeId} {cs : List Value} (h : Mem w g t cs) (i : Nat) (u : Value) : Mem (w.setCell ⟨g, i, none⟩ u) g t (cs.set i u) := by
  unfold Mem at h ⊢
  simp [World.setCell, Array.getElem?_modify, h]
theorem Mem.other {w : World} {g : Nat} {t : TypeId} {cs : List Value} (h : Mem w g t cs) {p : Addr} (hp : g ≠ p.block) (u : Value) : Mem (w.setCell p u) g t cs :=
  (Below.heap_setCell w p u g hp).trans h
theorem Mem.below {w w' : World} {g B : Nat} {t : TypeId} {cs : List Value} (h : Mem w g t cs) (hb : Below B w w') (hg : g < B) : Mem w' g t cs := (hb.block g hg).trans h
theorem below_drewN {B : Nat} {a w : World} (h : Below B a w) (n : Nat) : Below B a (w.drewN n) := ⟨h.os, h.tape, h.output, h.size, h.block⟩
/-! ### A whole array, or struct, out of and into such a block -/
section
variable {P : Program}
theorem wp_load_mem {ops : Array Oper} {rest : List Oper} {o : Oper} {a : Act} {w : World} {Q : Exit → Act → World → Prop} {g : Nat} {t : TypeId} {cs : List Value} (hm : Mem w g t cs) (ty : TypeId) (x : Operand) (d : TypeDesc)
    (hgd : o.guard = none) (ho : o.op = .load ty x) (hx : a.eval x = .pointer (some ⟨g, 0, none⟩))
    (hu : P.underlying ty = some d) (hd : (match d with | .struct _ | .array _ _ => true | _ => false) = true) (hi : (P.info? ty).map (·.size) = some cs.length)
    (h : wpList P ops Q rest (a.put o.dst (.agg cs.toArray)) w) : wpList P ops Q (o :: rest) a w :=
  wpList_load_row hgd ty x ho g hx t cs.toArray (0, 0) d hm hu hd (by simpa using hi) h
theorem wp_store_mem {ops : Array Oper} {rest : List Oper} {o : Oper} {a : Act} {w : World} {Q : Exit → Act → World → Prop} {g : Nat} {t : TypeId} {old : List Value} (hm : Mem w g t old) (cs : List Value) (ty : TypeId) (x y : Operand)
    (hgd : o.guard = none) (ho : o.op = .store ty x y) (hx : a.eval x = .pointer (some ⟨g, 0, none⟩)) (hy : a.eval y = .agg cs.toArray)
    (hi : (P.info? ty).map (·.size) = some cs.length) (hl : old.length = cs.length) (h1 : ∀ v ∈ cs, v.oneCell' = true)
    (h : wpList P ops Q rest (a.put o.dst undef) (w.setRow g cs.toArray)) : wpList P ops Q (o :: rest) a w :=
  wpList_store_row hgd ty x y ho g cs.toArray hx hy t old.toArray hm (by simpa using hi) (by simpa using hl) (Array.all_eq_true_iff_forall_mem.2 (fun v hv => h1 v (by simpa using hv))) h
theorem results_mem {fn : Func} {p : Tmp} {ty : TypeId} {w : World} {g : Nat} {t : TypeId} {cs : List Value} (hm : Mem w g t cs) (h : fn.results = #[.cell p ty]) (tmps : Array Value) (d : TypeDesc)
    (hp : tmps.getD p undef = .pointer (some ⟨g, 0, none⟩)) (hu : P.underlying ty = some d) (hd : (match d with | .struct _ | .array _ _ => true | _ => false) = true) (hi : (P.info? ty).map (·.size) = some cs.length) :
    (results fn tmps).run P w = .ok (.agg cs.toArray) w :=
  results_cell_row h tmps w g t cs.toArray (0, 0) d hp hm hu hd (by simpa using hi)
end
theorem Mem.setRow {w : World} {g : Nat} {t : TypeId} {old : List Value} (h : Mem w g t old) (cs : List Value) : Mem (w.setRow g cs.toArray) g t cs := setRow_heap w g _ _ t (0, 0) h
theorem heap_setRow_other (w : World) (g k : Nat) (cs : Array Value) (h : k ≠ g) : (w.setRow g cs).heap[k]? = w.heap[k]? := by
  simp [World.setRow, Array.getElem?_modify, Ne.symm h]
theorem Mem.setRow_other {w : World} {g k : Nat} {t : TypeId} {old : List Value} (h : Mem w k t old) (cs : Array Value) (hne : k ≠ g) : Mem (w.setRow g cs) k t old := (heap_setRow_other w g k cs hne).trans h
theorem below_row {B g : Nat} {w0 w : World} (hb : Below B w0 w) (hB : B ≤ g) (cs : Array Value) : Below B w0 (w.setRow g cs) :=
  ⟨hb.os, hb.tape, hb.output, by simpa [World.setRow] using hb.size, fun k hk => (heap_setRow_other w g k cs (by omega)).trans (hb.block k hk)⟩
/-- 'a[i]' of an array by value whose elements are integers. -/
theorem run_index_agg {P : Program} (t e : TypeId) (n : Nat) (cs : List Value) (ik k : IntKind) (i : Nat) (v : Value) (ht : P.underlying t = some (.array n e)) (he : P.underlying e = some (.int ik))
    (hs : (P.info? e).map (·.size) = some 1) (hi : i < n) (hv : cs[i]? = some v) (w : World) : (Instr.index t (.agg cs.toArray) (.int k i)).run P w = .ok v w := by
  have h0 : (0 : Int) ≤ i ∧ (i : Int) < n := by omega
  cases hq : P.info? e with
  | none => simp [hq] at hs
  | some j =>
    have hj : j.size = 1 := by simpa [hq] using hs
    simp [Instr.index, asIntOf, run_underlying ht, hi, Go.sizeOf, typeInfo, hq, hj, part, isAgg, run_underlying he, hv]
/-- A type's row out of one closed fact. -/
theorem info_of {P : Program} {t : TypeId} {z : Value} {s b : Nat} (h : (P.info? t).map (fun i => (i.zero, i.size, i.bytes)) = some (some z, s, b)) : ∃ i, P.info? t = some i ∧ i.zero = some z ∧ i.size = s ∧ i.bytes = b := by
  cases hq : P.info? t with
  | none => simp [hq] at h
  | some i => simp [hq] at h; exact ⟨i, rfl, h.1, h.2.1, h.2.2⟩
theorem grown_row {a w : World} {g : Nat} (h : a.grownBy w (some g)) (cs : Array Value) : a.grownBy (w.setRow g cs) (some g) :=
  ⟨h.os, h.tape, h.output, by simpa [World.setRow] using h.size, fun k hk hne => (heap_setRow_other w g k cs (fun e => hne (by rw [e]))).trans (h.block k hk hne)⟩
theorem grown_cell {a w : World} {g : Nat} (h : a.grownBy w (some g)) (i : Nat) (u : Value) : a.grownBy (w.setCell ⟨g, i, none⟩ u) (some g) :=
  ⟨h.os, h.tape, h.output, by simpa [World.setCell] using h.size, fun k hk hne => (Below.heap_setCell w _ u k (fun e => hne (by rw [e]))).trans (h.block k hk hne)⟩
theorem grown_drew {a w : World} {row : Option Nat} (h : a.grownBy w row) : a.grownBy w.drew row := ⟨h.os, h.tape, h.output, h.size, h.block⟩
theorem grown_drewN {a w : World} {row : Option Nat} (h : a.grownBy w row) (n : Nat) : a.grownBy (w.drewN n) row := ⟨h.os, h.tape, h.output, h.size, h.block⟩
theorem grown_below {a w w' : World} {row : Option Nat} (h : a.grownBy w row) (hb : Below w.heap.size w w') : a.grownBy w' row :=
  ⟨hb.os.trans h.os, hb.tape.trans h.tape, hb.output.trans h.output, Nat.le_trans h.size hb.size, fun k hk hne => (hb.block k (Nat.lt_of_lt_of_le hk h.size)).trans (h.block k hk hne)⟩
theorem grown_trans {a b c : World} {row : Option Nat} (h : a.grownBy b row) (h' : b.grownBy c row) : a.grownBy c row :=
  ⟨h'.os.trans h.os, h'.tape.trans h.tape, h'.output.trans h.output, Nat.le_trans h.size h'.size, fun k hk hne => (h'.block k (Nat.lt_of_lt_of_le hk h.size) hne).trans (h.block k hk hne)⟩
theorem Mem.grown {w w' : World} {g : Nat} {t : TypeId} {cs : List Value} {row : Option Nat} (h : Mem w g t cs) (hg : w.grownBy w' row) (hne : some g ≠ row) : Mem w' g t cs := (hg.block g h.lt hne).trans h
theorem one_int (k : IntKind) (n : Int) : (Value.int k n).oneCell' = true := rfl
end Crv
