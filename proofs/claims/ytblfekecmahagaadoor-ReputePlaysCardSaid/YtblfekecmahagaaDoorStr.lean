/-
  Words of our own for strings: copy of a string into a row, pieces of strings.
-/
import Derived.Test.YtblfekecmahagaaDoorSlc
import Derived.StillTailTactics
import Derived.Deep.MidRow
namespace Crv
open Go Go.RowKit

/-! ### copy(dst, s) of a string, as much of it as fits -/
theorem run_copy_str {P : Program} {w : World} {g : Nat} {t : TypeId} {cs : List Value} (hm : Mem w g t cs) (dT sT ty elem : TypeId) (off dLen dCap : Nat) (l : List UInt8)
    (hu : P.underlying dT = some (.slice elem)) (hs : (P.info? elem).map (·.size) = some 1) (hfit : off + dLen ≤ cs.length) :
    (Builtin.copy_ #[dT, sT] ty #[.slice (some ⟨g, off, none⟩) dLen dCap, .string (str l)]).run P w =
      .ok (.int .i64 ((min l.length dLen : Nat) : Int)) (w.setRow g (cs.take off ++ ((l.take (min l.length dLen)).map byteV ++ cs.drop (off + min l.length dLen))).toArray) := by
  have hl : ((l.take (min l.length dLen)).map byteV).length = min l.length dLen := by simp
  have hst := run_storeCells_at P g off t ((l.take (min l.length dLen)).map byteV) 0 cs.toArray w hm (by rw [hl]; simp; omega) (by
    intro v hv
    obtain ⟨x, _, rfl⟩ := List.mem_map.1 hv
    rfl)
  rw [hl] at hst
  simp only [Nat.add_zero, List.append_assoc] at hst
  have htk : List.take (min l.length dLen) (List.map (fun b : UInt8 => Value.int IntKind.u8 (b.toNat : Int)) l) = (l.take (min l.length dLen)).map byteV := by
    rw [List.map_take]
  cases hq : P.info? elem with
  | none => simp [hq] at hs
  | some i =>
    have hmin : Nat.min l.length dLen = min l.length dLen := rfl
    simp [Builtin.copy_, run_underlying hu, Builtin.lenOf, Builtin.firstCells, Go.sizeOf, typeInfo, hq, hmin, ByteArray.size]
    rw [htk, hst]
    simp [Result.andThen, goInt]
theorem wp_copy_str {P : Program} {ops : Array Oper} {rest : List Oper} {o : Oper} {a : Act} {w : World} {Q : Exit → Act → World → Prop} {g : Nat} {t : TypeId} {cs : List Value} (hm : Mem w g t cs) (d x : Operand) (dT sT elem : TypeId) (off dLen dCap : Nat) (l : List UInt8)
    (hgd : o.guard = none) (ho : o.op = .call { callee := .builtin .copy, args := #[d, x], argTypes := #[dT, sT] }) (hd : a.eval d = .slice (some ⟨g, off, none⟩) dLen dCap) (hx : a.eval x = .string (str l))
    (hu : P.underlying dT = some (.slice elem)) (hs : (P.info? elem).map (·.size) = some 1) (hfit : off + dLen ≤ cs.length)
    (h : wpList P ops Q rest (a.put o.dst (.int .i64 ((min l.length dLen : Nat) : Int))) (w.setRow g (cs.take off ++ ((l.take (min l.length dLen)).map byteV ++ cs.drop (off + min l.length dLen))).toArray)) : wpList P ops Q (o :: rest) a w := by
  refine wpList_plain hgd fun K hK => ?_
  have hr := run_copy_str (P := P) hm dT sT o.type elem off dLen dCap l hu hs hfit
  unfold Oper.wp execOp
  simp only [ho, resolve, invoke, builtin, Sem.run_bind, Sem.run_pure, Result.andThen_ok, List.map_toArray, List.map_cons, List.map_nil, hd, hx, hr]
  exact hK _ _ h

/-! ### A whole array out of the middle of a block, in a region that draws its order and whose first operations only read -/
theorem still_load_mid {P : Program} {ops : Array Oper} {w : World} {Q : Act → Prop} {rest : List Oper} {op : Oper} {a : Act} (ty : TypeId) (x : Operand) (b o : Nat) (cs : List Value) (d : TypeDesc) (hgd : op.guard = none) (ho : op.op = .load ty x)
    (hx : a.eval x = .pointer (some ⟨b, o, none⟩)) (hc : w.rangeAt b o cs) (hu : P.underlying ty = some d) (hd : d.isRow = true) (hi : (P.info? ty).map (·.size) = some cs.length)
    (h : wpStill P ops w Q rest (a.put op.dst (.agg cs.toArray))) : wpStill P ops w Q (op :: rest) a := by
  refine wpStill_step fun K hK => ?_
  have hw : Region.wanted op (yielded ops a.tmps) = true := by simp [Region.wanted, hgd]
  rw [if_pos hw]
  have hr := run_loadAt_mid (P := P) w b o ty cs d hc hu hd hi
  unfold Oper.still execOp
  simp only [ho, hx, hr, Sem.run_bind, Sem.run_pure, Result.andThen_ok, Oper.stillUpon_value]
  exact hK _ h
theorem Mem.range {w : World} {g : Nat} {t : TypeId} {cs : List Value} (h : Mem w g t cs) (o : Nat) (part : List Value) (hp : part <+: cs.drop o) : w.rangeAt g o part := fun j v hv => by
  obtain ⟨r, hr⟩ := hp
  have hj : j < part.length := (List.getElem?_eq_some_iff.1 hv).1
  rw [h.cell, ← hv]
  have : cs[o + j]? = (cs.drop o)[j]? := by rw [List.getElem?_drop]
  rw [this, ← hr, List.getElem?_append_left hj]

/-! ### Whole arrays as the walk meets them: 'rowOf' is what lies there -/
def rowOf (w : World) (b o n : Nat) : List Value := (List.range n).map fun j => (w.cell? ⟨b, o + j, none⟩).getD undef
def HasRow (w : World) (b o n : Nat) : Prop := ∀ j, j < n → (w.cell? ⟨b, o + j, none⟩).isSome = true ∧ w.frozen? ⟨b, o + j, none⟩ = false
theorem HasRow.range {w : World} {b o n : Nat} (h : HasRow w b o n) : w.rangeAt b o (rowOf w b o n) := fun j v hv => by
  have hj : j < n := by
    have := (List.getElem?_eq_some_iff.1 hv).1
    simpa [rowOf] using this
  obtain ⟨u, hu⟩ := Option.isSome_iff_exists.1 (h j hj).1
  simp only [rowOf, List.getElem?_map, List.getElem?_range hj, Option.map_some, hu, Option.getD_some, Option.some.injEq] at hv
  rw [hu, hv]
theorem length_rowOf (w : World) (b o n : Nat) : (rowOf w b o n).length = n := by simp [rowOf]
theorem run_load_rowOf {P : Program} {ty e : TypeId} {n : Nat} (hu : P.underlying ty = some (.array n e)) (hi : (P.info? ty).map (·.size) = some n) (w : World) (b o : Nat) (h : HasRow w b o n) :
    (Instr.loadAt ty (.pointer (some ⟨b, o, none⟩))).run P w = .ok (.agg (rowOf w b o n).toArray) w :=
  run_loadAt_mid w b o ty _ _ h.range hu rfl (by rw [length_rowOf]; exact hi)
theorem run_store_rowOf {P : Program} {ty : TypeId} {n : Nat} (hi : (P.info? ty).map (·.size) = some n) (w : World) (b o : Nat) (cs : List Value) (hl : cs.length = n) (h1 : ∀ v ∈ cs, v.oneCell' = true) (h : HasRow w b o n) :
    (Instr.storeAt ty (.pointer (some ⟨b, o, none⟩)) (.agg cs.toArray)).run P w = .ok () (w.setCells b o cs) := by
  have := run_storeAt_mid (P := P) w b o ty cs.toArray (fun j hj => h j (by simpa [hl] using hj)) (by simpa [hl] using hi) (all_oneCell_toArray h1)
  simpa using this
/-- The walk's way to them: the operation is put behind a name before its address is known ('attribute [local go_sem ↓]' at the array types that are meant); once that is known one of the two laws fires. -/
def ldRow (ty : TypeId) (p : Value) : Sem Value := Instr.loadAt ty p
def stRow (ty : TypeId) (p v : Value) : Sem Unit := Instr.storeAt ty p v
theorem ldRow_at {P : Program} {ty e : TypeId} {n : Nat} (hu : P.underlying ty = some (.array n e)) (hi : (P.info? ty).map (·.size) = some n) (w : World) (b o : Nat) (h : HasRow w b o n) :
    (ldRow ty (.pointer (some ⟨b, o, none⟩))).run P w = .ok (.agg (rowOf w b o n).toArray) w := run_load_rowOf hu hi w b o h
theorem stRow_at {P : Program} {ty : TypeId} {n : Nat} (hi : (P.info? ty).map (·.size) = some n) (w : World) (b o : Nat) (cs : List Value) (hl : cs.length = n) (h1 : ∀ v ∈ cs, v.oneCell' = true) (h : HasRow w b o n) :
    (stRow ty (.pointer (some ⟨b, o, none⟩)) (.agg cs.toArray)).run P w = .ok () (w.setCells b o cs) := run_store_rowOf hi w b o cs hl h1 h
@[simp, go_sem] theorem rowOf_drew (w : World) (b o n : Nat) : rowOf w.drew b o n = rowOf w b o n := rfl
@[simp, go_sem] theorem rowOf_drewN (w : World) (k b o n : Nat) : rowOf (w.drewN k) b o n = rowOf w b o n := rfl
@[simp, go_sem] theorem hasRow_drew (w : World) (b o n : Nat) : HasRow w.drew b o n ↔ HasRow w b o n := Iff.rfl
@[simp, go_sem] theorem hasRow_drewN (w : World) (k b o n : Nat) : HasRow (w.drewN k) b o n ↔ HasRow w b o n := Iff.rfl
theorem Mem.row {w : World} {g : Nat} {t : TypeId} {cs : List Value} (h : Mem w g t cs) (o n : Nat) (part : List Value) (hp : part <+: cs.drop o) (hl : part.length = n) : rowOf w g o n = part := by
  apply List.ext_getElem?
  intro j
  rcases Nat.lt_or_ge j n with hj | hj
  · have hr := h.range o part hp j (part[j]'(by omega)) (List.getElem?_eq_getElem (by omega))
    simp only [rowOf, List.getElem?_map, List.getElem?_range hj, Option.map_some, hr, Option.getD_some]
    rw [List.getElem?_eq_getElem (by omega)]
  · rw [List.getElem?_eq_none (by simpa [rowOf] using hj), List.getElem?_eq_none (by omega)]
theorem Mem.hasRow {w : World} {g : Nat} {t : TypeId} {cs : List Value} (h : Mem w g t cs) (o n : Nat) (hl : o + n ≤ cs.length) : HasRow w g o n := fun j hj => by
  refine ⟨?_, h.frozen _⟩
  rw [h.cell, List.getElem?_eq_getElem (by omega)]
  rfl
theorem setCells_row {g : Nat} {t : TypeId} : ∀ (vs : List Value) (o : Nat) (w : World) (cs : List Value), Mem w g t cs → o + vs.length ≤ cs.length → Mem (w.setCells g o vs) g t (cs.take o ++ (vs ++ cs.drop (o + vs.length)))
  | [], o, w, cs, h, _ => by simpa [World.setCells] using h
  | v :: r, o, w, cs, h, hl => by
    have hl' : o + r.length + 1 ≤ cs.length := by simpa [Nat.add_assoc] using hl
    have h1 := setCells_row r (o + 1) _ _ (h.set o v) (by simp; omega)
    rw [World.setCells]
    have e : (cs.set o v).take (o + 1) ++ (r ++ (cs.set o v).drop (o + 1 + r.length)) = cs.take o ++ (v :: r ++ cs.drop (o + (v :: r).length)) := by
      rw [List.take_succ_eq_append_getElem (by simp; omega), List.take_set_of_le (Nat.le_refl _), List.getElem_set_self, List.drop_set_of_lt (by omega)]
      simp only [List.append_assoc, List.cons_append, List.nil_append, List.length_cons]
      congr 4
      omega
    rw [← e]
    exact h1
theorem grown_cells {a : World} {g : Nat} : ∀ (vs : List Value) (o : Nat) (w : World), a.grownBy w (some g) → a.grownBy (w.setCells g o vs) (some g)
  | [], _, _, h => h
  | v :: r, o, w, h => by rw [World.setCells]; exact grown_cells r (o + 1) _ (grown_cell h o v)

theorem Mem.newArr (w : World) {g : Nat} (t : TypeId) (arr : Array Value) (h : g = w.heap.size) : Mem (w.alloc (.cells arr t)) g t arr.toList := by
  have := Mem.newAt w t arr.toList h
  simpa using this

/-- A store of a whole array, what follows said of any world that is as the store leaves it. -/
theorem wp_store_gen {P : Program} {ops : Array Oper} {rest : List Oper} {o : Oper} {a : Act} {w0 w : World} {Q : Exit → Act → World → Prop} {g B : Nat} {t : TypeId} {old : List Value} (hB : Below B w0 w) (hBg : B ≤ g) (hm : Mem w g t old) (cs : List Value) (ty : TypeId) (x y : Operand)
    (hgd : o.guard = none) (ho : o.op = .store ty x y) (hx : a.eval x = .pointer (some ⟨g, 0, none⟩)) (hy : a.eval y = .agg cs.toArray)
    (hi : (P.info? ty).map (·.size) = some cs.length) (hl : old.length = cs.length) (h1 : ∀ v ∈ cs, v.oneCell' = true)
    (h : ∀ W, Mem W g t cs → Below B w0 W → W.heap.size = w.heap.size → (∀ k, k ≠ g → W.heap[k]? = w.heap[k]?) → wpList P ops Q rest (a.put o.dst undef) W) : wpList P ops Q (o :: rest) a w :=
  wp_store_mem hm cs ty x y hgd ho hx hy hi hl h1 (h _ (hm.setRow cs) (below_row hB hBg _) (by simp [World.setRow]) (fun k hk => heap_setRow_other w g k _ hk))

/-! ### Pieces of strings -/
theorem extract_str (l : List UInt8) (a b : Nat) : (str l).extract a b = str ((l.take b).drop a) := by
  rw [str_eq ((str l).extract a b)]
  congr 2
  rw [ByteArray.data_extract]
  simp [List.extract_eq_take_drop, List.drop_take]
/-- 's[i]'. -/
theorem run_index_str {P : Program} (t : TypeId) (h : P.underlying t = some .string) (l : List UInt8) (k : IntKind) (i : Nat) (hi : i < l.length) (w : World) :
    (Instr.index t (.string (str l)) (.int k (i : Int))).run P w = .ok (.int .u8 ((l.getD i 0).toNat : Int)) w := by
  have hg : (str l)[i]? = some (l.getD i 0) := by
    have hs : i < (str l).size := hi
    rw [List.getD_eq_getElem?_getD, List.getElem?_eq_getElem hi, getElem?_pos (str l) i hs]
    rfl
  simp [Instr.index, asIntOf, run_underlying h, hg]
theorem slice_str_from {P : Program} {t : TypeId} (h : P.underlying t = some .string) (l : List UInt8) (k : IntKind) (n : Nat) (hn : n ≤ l.length) (w : World) : (Instr.slice t (.string (str l)) (some (.int k n)) none none).run P w = .ok (.string (str (l.drop n))) w := by
  simp [go_sem, h, hn, extract_str]
end Crv
