/-
  Two arrays of bytes held against each other.
-/
import Derived.Test.YtblfekecmahagaaDoorStr2
import Derived.Laws.StructEq
namespace Crv
open Go Go.RowKit
theorem run_part_int {P : Program} (e : TypeId) (ik : IntKind) (cs : List Value) (i : Nat) (v : Value) (he : P.underlying e = some (.int ik)) (hv : cs[i]? = some v) (w : World) : (part e cs.toArray i).run P w = .ok v w := by
  simp [part, isAgg, run_underlying he, hv]
theorem run_eqBytes_from {P : Program} (e : TypeId) (he : P.underlying e = some (.int .u8)) (d : Nat) (l l' : List UInt8) (n : Nat) (hl : l.length = n) (hl' : l'.length = n) (w : World) : ∀ (m i : Nat), i + m = n →
    ((forIn (List.range' i m) ((none : Option Bool), ()) fun i _ => do
        if !(← Op.equalIn (d + 1) e (← part e (l.map byteV).toArray (i * 1)) (← part e (l'.map byteV).toArray (i * 1))) then
          pure (ForInStep.done (some false, ()))
        else pure (ForInStep.yield (none, ())) : Sem (Option Bool × Unit)).run P w).andThen (fun a w' => (match a.fst with | some r => pure r | none => pure true : Sem Bool).run P w') = .ok (decide (l.drop i = l'.drop i)) w
  | 0, i, h => by
    have h1 : l.drop i = [] := List.drop_of_length_le (by omega)
    have h2 : l'.drop i = [] := List.drop_of_length_le (by omega)
    simp [h1, h2]
  | m + 1, i, h => by
    have hi : i < l.length := by omega
    have hi' : i < l'.length := by omega
    have ih := run_eqBytes_from e he d l l' n hl hl' w m (i + 1) (by omega)
    have p1 := run_part_int (P := P) e .u8 (l.map byteV) (i * 1) (byteV l[i]) he (by simp [hi]) w
    have p2 := run_part_int (P := P) e .u8 (l'.map byteV) (i * 1) (byteV l'[i]) he (by simp [hi']) w
    have hq := run_equalIn_int (P := P) w d e .u8 .u8 (l[i].toNat : Int) (l'[i].toNat : Int) he
    have hcons : (l.drop i = l'.drop i) ↔ (l[i] = l'[i] ∧ l.drop (i + 1) = l'.drop (i + 1)) := by
      rw [List.drop_eq_getElem_cons hi, List.drop_eq_getElem_cons hi', List.cons.injEq]
    rw [List.range'_succ]
    simp only [List.forIn_cons, Sem.run_bind, p1, p2, hq, Result.andThen_ok]
    by_cases hab : l[i] = l'[i]
    · have hb : (((l[i].toNat : Int) == (l'[i].toNat : Int))) = true := by simp [hab]
      simp only [hb, Bool.not_true, Bool.false_eq_true, if_false, Sem.run_pure, Result.andThen_ok]
      rw [ih]
      congr 1
      exact decide_eq_decide.2 (by rw [hcons]; simp [hab])
    · have hb : (((l[i].toNat : Int) == (l'[i].toNat : Int))) = false := by
        rw [beq_eq_false_iff_ne]; intro h; apply hab; apply UInt8.toNat_inj.1; omega
      simp only [hb, Bool.not_false, if_true, Sem.run_pure, Result.andThen_ok]
      congr 1
      exact (decide_eq_false (by rw [hcons]; exact fun h => hab h.1)).symm
theorem run_equalIn_bytes {P : Program} (t e : TypeId) (n : Nat) (ht : P.underlying t = some (.array n e)) (he : P.underlying e = some (.int .u8)) (hs : (P.info? e).map (·.size) = some 1) (d : Nat) (l l' : List UInt8) (hl : l.length = n) (hl' : l'.length = n) (w : World) :
    (Op.equalIn (d + 2) t (.agg (l.map byteV).toArray) (.agg (l'.map byteV).toArray)).run P w = .ok (decide (l = l')) w := by
  cases hq : P.info? e with
  | none => simp [hq] at hs
  | some j =>
    have hj : j.size = 1 := by simpa [hq] using hs
    have h := run_eqBytes_from (P := P) e he d l l' n hl hl' w n 0 (by omega)
    simp only [List.drop_zero] at h
    rw [← h, Op.equalIn]
    simp only [Sem.run_bind, run_underlying ht, Result.andThen_ok, Go.sizeOf, typeInfo, Sem.run_pure, run_program, hq, hj]
    rw [Std.Legacy.Range.forIn_eq_forIn_range']
    simp only [Std.Legacy.Range.size, Nat.sub_zero, Nat.add_sub_cancel, Nat.div_one]
    congr 1
    funext a w'
    obtain ⟨a1, a2⟩ := a
    cases a1 <;> rfl
/-- '==' and '!=' of two arrays of bytes. -/
theorem run_eql_bytes {P : Program} (t e : TypeId) (n : Nat) (ht : P.underlying t = some (.array n e)) (he : P.underlying e = some (.int .u8)) (hs : (P.info? e).map (·.size) = some 1) (l l' : List UInt8) (hl : l.length = n) (hl' : l'.length = n) (w : World) :
    (binOp .eql t (.agg (l.map byteV).toArray) (.agg (l'.map byteV).toArray)).run P w = .ok (.bool (decide (l = l'))) w := by
  rw [run_eql_struct, run_equalIn_bytes t e n ht he hs 9998 l l' hl hl' w]; rfl
theorem run_neq_bytes {P : Program} (t e : TypeId) (n : Nat) (ht : P.underlying t = some (.array n e)) (he : P.underlying e = some (.int .u8)) (hs : (P.info? e).map (·.size) = some 1) (l l' : List UInt8) (hl : l.length = n) (hl' : l'.length = n) (w : World) :
    (binOp .neq t (.agg (l.map byteV).toArray) (.agg (l'.map byteV).toArray)).run P w = .ok (.bool (!decide (l = l'))) w := by
  rw [run_neq_struct, run_equalIn_bytes t e n ht he hs 9998 l l' hl hl' w]; rfl
end Crv
