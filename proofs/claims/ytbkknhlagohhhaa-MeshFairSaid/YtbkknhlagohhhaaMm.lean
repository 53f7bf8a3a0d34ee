/-
  max and min of two numbers, as one value without a split.
-/
import Derived.Test.YtbkknhlagohhhaaBase
namespace Go.Proofs.Ytbkknhlagohhhaa
open Go.RowKit

theorem wp_max0 {P : Program} {ops : Array Oper} {rest : List Oper} {o : Oper} {a : Act} {w : World} {Q : Exit → Act → World → Prop} {c d : Int} {t : TypeId} (x y : Operand) (hgd : o.guard = none)
    (ho : o.op = .call { callee := .builtin .max, args := #[x, y], argTypes := #[t, t] }) (hx : a.eval x = .int .i64 c) (hy : a.eval y = .int .i64 d) (h : wpList P ops Q rest (a.put o.dst (.int .i64 (max c d))) w) : wpList P ops Q (o :: rest) a w := by
  refine wpList_plain hgd fun K hK => ?_
  have hr : (Builtin.max_ #[t, t] o.type #[.int .i64 c, .int .i64 d]).run P w = .ok (.int .i64 (max c d)) w := by
    rw [run_max_int2]
    congr 2
    split <;> omega
  unfold Oper.wp execOp
  simp only [ho, resolve, invoke, builtin, Sem.run_bind, Sem.run_pure, Result.andThen_ok, List.map_toArray, List.map_cons, List.map_nil, hx, hy, hr]
  exact hK _ _ h
theorem wp_min0 {P : Program} {ops : Array Oper} {rest : List Oper} {o : Oper} {a : Act} {w : World} {Q : Exit → Act → World → Prop} {c d r : Int} {t : TypeId} (x y : Operand) (hr0 : min c d = r) (hgd : o.guard = none)
    (ho : o.op = .call { callee := .builtin .min, args := #[x, y], argTypes := #[t, t] }) (hx : a.eval x = .int .i64 c) (hy : a.eval y = .int .i64 d) (h : wpList P ops Q rest (a.put o.dst (.int .i64 r)) w) : wpList P ops Q (o :: rest) a w := by
  refine wpList_plain hgd fun K hK => ?_
  have hr : (Builtin.min_ #[t, t] o.type #[.int .i64 c, .int .i64 d]).run P w = .ok (.int .i64 r) w := by
    rw [run_min_int2, ← hr0]
    congr 2
    split <;> omega
  unfold Oper.wp execOp
  simp only [ho, resolve, invoke, builtin, Sem.run_bind, Sem.run_pure, Result.andThen_ok, List.map_toArray, List.map_cons, List.map_nil, hx, hy, hr]
  exact hK _ _ h
end Go.Proofs.Ytbkknhlagohhhaa
