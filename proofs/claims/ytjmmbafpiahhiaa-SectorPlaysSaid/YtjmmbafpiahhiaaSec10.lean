/-
  Package sector: Crash.
-/
import Derived.Test.YtjmmbafpiahhiaaSec9
namespace Go.Proofs.Ytjmmbafpiahhiaa
open Go.RowKit Go.Maps Go.Sort Go.Shelf Crv

theorem wp_max0 {P : Program} {ops : Array Oper} {rest : List Oper} {o : Oper} {a : Act} {w : World} {Q : Exit → Act → World → Prop} {c d : Int} {t : TypeId} (x y : Operand) (hgd : o.guard = none)
    (ho : o.op = .call { callee := .builtin .max, args := #[x, y], argTypes := #[t, t] }) (hx : a.eval x = .int .i64 c) (hy : a.eval y = .int .i64 d) (h : wpList P ops Q rest (a.put o.dst (.int .i64 (max c d))) w) : wpList P ops Q (o :: rest) a w := by
  refine wpList_plain hgd fun K hK => ?_
  have hr : (Builtin.max_ #[t, t] o.type #[.int .i64 c, .int .i64 d]).run P w = .ok (.int .i64 (max c d)) w := by
    rw [run_max_int2]
    congr 2
    split <;> omega
  unfold Oper.wp execOp
  simp only [ho, resolve, invoke, builtin, Sem.run_bind, Sem.run_pure, Result.andThen_ok, List.map_toArray, List.map_cons, List.map_nil, hx, hy, hr]
  exact hK _ _ h
theorem wp_min0 {P : Program} {ops : Array Oper} {rest : List Oper} {o : Oper} {a : Act} {w : World} {Q : Exit → Act → World → Prop} {c d r : Int} {t : TypeId} (x y : Operand) (hr0 : min c d = r) (hgd : o.guard = none)
    (ho : o.op = .call { callee := .builtin .min, args := #[x, y], argTypes := #[t, t] }) (hx : a.eval x = .int .i64 c) (hy : a.eval y = .int .i64 d) (h : wpList P ops Q rest (a.put o.dst (.int .i64 r)) w) : wpList P ops Q (o :: rest) a w := by
  refine wpList_plain hgd fun K hK => ?_
  have hr : (Builtin.min_ #[t, t] o.type #[.int .i64 c, .int .i64 d]).run P w = .ok (.int .i64 r) w := by
    rw [run_min_int2, ← hr0]
    congr 2
    split <;> omega
  unfold Oper.wp execOp
  simp only [ho, resolve, invoke, builtin, Sem.run_bind, Sem.run_pure, Result.andThen_ok, List.map_toArray, List.map_cons, List.map_nil, hx, hy, hr]
  exact hK _ _ h

/-- A slice value that reads as a list of numbers. -/
def Zs (w : World) (v : Value) (xs : List Int) : Prop := ∃ a cap, v = .slice a xs.length cap ∧ ∀ i, i < xs.length → ∃ b off, a = some ⟨b, off, none⟩ ∧ w.cell? ⟨b, off + i, none⟩ = some (.int .i64 (xs.getD i 0))
theorem Zs.only {S : List Nat} {w w' : World} {v : Value} {xs : List Int} (h : Zs w v xs) (ho : Only S w w') (hav : xs ≠ [] → ∀ g, v.ownBlock = some g → g ∉ S) : Zs w' v xs := by
  obtain ⟨ad, cap, hv, hc⟩ := h
  refine ⟨ad, cap, hv, fun i hi => ?_⟩
  obtain ⟨b', off, ha, hcell⟩ := hc i hi
  refine ⟨b', off, ha, ?_⟩
  have hlt := World.block_lt_of_cell? w _ hcell
  subst hv
  subst ha
  rw [World.cell?_of_block (ho.2 b' hlt (hav (by intro e; subst e; simp at hi) b' rfl))]
  exact hcell
theorem Zs.of_row {w : World} {base : Nat} {v : Value} {xs : List Int} {n : Nat} (h : w.ownsRow base TN 1 v n (xs.map encZ)) (hn : n = xs.length) : Zs w v xs := by
  subst hn
  obtain ⟨h1, h2⟩ := h
  rcases h2 with ⟨rfl, h3⟩ | ⟨g, cap, cur, rfl, hb, hg, h4, h5, h6, h7⟩
  · refine ⟨none, 0, by rw [h3], fun i hi => by omega⟩
  · refine ⟨_, cap, rfl, fun i hi => ⟨g, 0, rfl, ?_⟩⟩
    have e : cur[i]? = some (.int .i64 (xs.getD i 0)) := by
      have : cur.toList[i]? = some (encZ (xs.getD i 0)) := by
        have h8 : (cur.toList.take (xs.length * 1))[i]? = cur.toList[i]? := by rw [List.getElem?_take, if_pos (by omega)]
        rw [← h8, h7, List.getElem?_map, List.getElem?_eq_getElem hi, List.getD_eq_getElem?_getD, List.getElem?_eq_getElem hi]
        rfl
      rw [← this, Array.getElem?_toList]
    simp [World.cell?, hg, e]

/-- How many bytes of the j-th loose sector survive. -/
def keptS (ch : List Int) (j : Nat) : Nat := if j < ch.length then (min (max (ch.getD j 0) 0) 64).toNat else 0
theorem keptS_le (ch : List Int) (j : Nat) : keptS ch j ≤ 64 := by unfold keptS; split <;> omega
/-- A sector of which the first q bytes survive. -/
def tearS (bs : List UInt8) (i q : Nat) (l : List UInt8) : List UInt8 := bs.take (64 * i + q) ++ (l.drop q ++ bs.drop (64 * i + 64))
theorem length_tearS {bs : List UInt8} {sz i q : Nat} {l : List UInt8} (hb : bs.length = 64 * sz) (hi : i < sz) (hq : q ≤ 64) (hl : l.length = 64) : (tearS bs i q l).length = bs.length := by
  unfold tearS
  simp only [List.length_append, List.length_take, List.length_drop]
  omega
theorem tear_all {bs : List UInt8} {i : Nat} {l : List UInt8} (hl : l.length = 64) : tearS bs i 64 l = bs := by
  unfold tearS
  rw [List.drop_of_length_le (by omega), List.nil_append, List.take_append_drop]
/-- The bytes once the first j loose sectors are torn. -/
def crTo (bs : List UInt8) (du : Tab) (L : List Nat) (ch : List Int) : Nat → List UInt8
  | 0 => bs
  | j + 1 => tearS (crTo bs du L ch j) (L.getD j 0) (keptS ch j) ((du (L.getD j 0)).getD [])
end Go.Proofs.Ytjmmbafpiahhiaa
