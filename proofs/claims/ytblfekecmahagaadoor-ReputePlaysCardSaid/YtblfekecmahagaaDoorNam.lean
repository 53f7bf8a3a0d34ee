/-
  The laws' Name; names in memory.
-/
import Derived.Test.YtblfekecmahagaaDoorBase
import Derived.Laws.ResultCell
namespace Go.Proofs.YtblfekecmahagaaDoor
open Go.RowKit Crv

abbrev zs32 : Array Value := #[Value.int IntKind.u8 0, Value.int IntKind.u8 0, Value.int IntKind.u8 0, Value.int IntKind.u8 0, Value.int IntKind.u8 0, Value.int IntKind.u8 0, Value.int IntKind.u8 0, Value.int IntKind.u8 0, Value.int IntKind.u8 0, Value.int IntKind.u8 0, Value.int IntKind.u8 0, Value.int IntKind.u8 0, Value.int IntKind.u8 0, Value.int IntKind.u8 0, Value.int IntKind.u8 0, Value.int IntKind.u8 0, Value.int IntKind.u8 0, Value.int IntKind.u8 0, Value.int IntKind.u8 0, Value.int IntKind.u8 0, Value.int IntKind.u8 0, Value.int IntKind.u8 0, Value.int IntKind.u8 0, Value.int IntKind.u8 0, Value.int IntKind.u8 0, Value.int IntKind.u8 0, Value.int IntKind.u8 0, Value.int IntKind.u8 0, Value.int IntKind.u8 0, Value.int IntKind.u8 0, Value.int IntKind.u8 0, Value.int IntKind.u8 0]
theorem zs32_eq : zs32 = (List.replicate 32 (byteV 0)).toArray := rfl
/-- The bytes of a text as a name: cut to 32, zeros behind. -/
def nameOf (l : List UInt8) : List UInt8 := l.take 32 ++ List.replicate (32 - l.length) 0
theorem length_nameOf (l : List UInt8) : (nameOf l).length = 32 := by
  unfold nameOf
  rw [List.length_append, List.length_take, List.length_replicate]
  omega
theorem nameOf_of (l : List UInt8) (h : l.length = 32) : nameOf l = l := by
  unfold nameOf
  rw [List.take_of_length_le (by omega), h]
  simp

/-- copy(b[:], s), what follows said of any world that is as the copy leaves it. -/
theorem wp_copy_gen {P : Program} {ops : Array Oper} {rest : List Oper} {o : Oper} {a : Act} {w0 w : World} {Q : Exit → Act → World → Prop} {g B : Nat} {t : TypeId} {cs : List Value} (hB : Below B w0 w) (hBg : B ≤ g) (hm : Mem w g t cs) (new : List Value) (d x : Operand) (dT sT elem : TypeId) (dLen dCap : Nat) (l : List UInt8)
    (hgd : o.guard = none) (ho : o.op = .call { callee := .builtin .copy, args := #[d, x], argTypes := #[dT, sT] }) (hd : a.eval d = .slice (some ⟨g, 0, none⟩) dLen dCap) (hx : a.eval x = .string (str l))
    (hu : P.underlying dT = some (.slice elem)) (hs : (P.info? elem).map (·.size) = some 1) (hfit : dLen ≤ cs.length)
    (hnew : cs.take 0 ++ ((l.take (min l.length dLen)).map byteV ++ cs.drop (0 + min l.length dLen)) = new)
    (h : ∀ W, Mem W g t new → Below B w0 W → (∀ k, k ≠ g → W.heap[k]? = w.heap[k]?) → wpList P ops Q rest (a.put o.dst (.int .i64 ((min l.length dLen : Nat) : Int))) W) : wpList P ops Q (o :: rest) a w := by
  subst hnew
  exact wp_copy_str hm d x dT sT elem 0 dLen dCap l hgd ho hd hx hu hs (by omega) (h _ (hm.setRow _) (below_row hB hBg _) (fun k hk => heap_setRow_other w g k _ hk))
theorem name_cells (l : List UInt8) : (List.replicate 32 (byteV 0)).take 0 ++ ((l.take (min l.length 32)).map byteV ++ (List.replicate 32 (byteV 0)).drop (0 + min l.length 32)) = (nameOf l).map byteV := by
  unfold nameOf
  rw [List.map_append, List.map_replicate, List.take_zero, List.nil_append, Nat.zero_add, List.drop_replicate]
  by_cases h : l.length ≤ 32
  · rw [Nat.min_eq_left h, List.take_length, List.take_of_length_le h]
  · rw [Nat.min_eq_right (by omega), show 32 - l.length = 0 from by omega]
theorem sz_id (x : List UInt8) (h : x.length = 32) : (Tryd.prog.info? 35).map (·.size) = some (x.map byteV).length := by rw [List.length_map, h]; kernel_rfl

/-- A result that is an array in memory, and one in a slot. -/
theorem results_mem2 {P : Program} {fn : Func} {p u : Tmp} {ty : TypeId} {w : World} {g : Nat} {t : TypeId} {cs : List Value} (hm : Mem w g t cs) (h : fn.results = #[.cell p ty, .tmp u]) (tmps : Array Value) (d : TypeDesc)
    (hp : tmps.getD p undef = .pointer (some ⟨g, 0, none⟩)) (hu : P.underlying ty = some d) (hd : (match d with | .struct _ | .array _ _ => true | _ => false) = true) (hi : (P.info? ty).map (·.size) = some cs.length) :
    (results fn tmps).run P w = .ok (.tuple #[.agg cs.toArray, tmps.getD u undef]) w := by
  rw [results_cell_tmp h tmps P w, hp]
  simp [asAddr, run_loadVar_row w g t ty cs.toArray (0, 0) d hm hu hd (by simpa using hi)]
end Go.Proofs.YtblfekecmahagaaDoor
