/-
  append of two owned lists.
-/
import Derived.Test.YtjmmbafpiahhiaaBase
namespace Go.Proofs.Ytjmmbafpiahhiaa
open Go.RowKit Crv
theorem srun_append_all {P : Program} {w : World} {base b2 : Nat} {e : TypeId} {v x : Value} {xs ys : List Value} (hown : Owns w base e v xs) (hx : Owns w b2 e x ys) (t ty : TypeId) (i : TypeInfo) (z : Value)
    (ht : P.underlying t = some (.slice e)) (hi : P.info? e = some i) (hz : i.zero = some z) (hsize : i.size = 1) (hby : i.bytes ≤ 64) (hzs : z.cells.size = 1) (h1 : ∀ u ∈ ys, u.oneCell' = true) (hlen : xs.length + ys.length ≤ 1099511627776) (hbase : base ≤ w.heap.size) :
    ∃ v' w', (Builtin.append_ #[t, t] ty #[v, x]).run P w = .ok v' w' ∧ Owns w' base e v' (xs ++ ys) ∧ w.grownBy w' v.ownBlock := by
  rcases hx.2 with ⟨rfl, h0⟩ | ⟨g, cap, cur, rfl, _, hg, _, _, _, htk⟩
  · have hy : ys = [] := List.length_eq_zero_iff.1 h0
    subst hy
    exact ⟨v, w, run_append_owned_none w base t ty e i 1 ht hi v xs.length xs hown, by rw [List.append_nil]; exact hown, grownRefl _ _⟩
  · obtain ⟨v', w', hr, h2, h3, _⟩ := run_append_keep (P := P) hown ys t ty i z ht hi hz hsize hby hzs (g := g) (c := cap) (fun j u hu => by
      have hj : j < ys.length := (List.getElem?_eq_some_iff.1 hu).1
      have h4 := hx.reads
      obtain ⟨a', cap', hv', hc'⟩ := h4
      injection hv' with h5 _ _
      obtain ⟨b', off', ha', hcell'⟩ := hc' j hj
      rw [← h5] at ha'
      injection ha' with ha'
      injection ha' with h6 h7 _
      subst h6 h7
      rw [Nat.zero_add] at hcell'
      rw [hcell', hu]) h1 hlen hbase
    exact ⟨v', w', hr, h2, h3⟩
section
variable {P : Program} {ops : Array Oper} {rest : List Oper} {o : Oper} {a : Act} {w : World} {Q : Exit → Act → World → Prop} {base b2 : Nat} {e : TypeId} {v x : Value} {xs ys : List Value}
theorem swp_append_all (hown : Owns w base e v xs) (hx : Owns w b2 e x ys) (s y : Operand) (t : TypeId) (i : TypeInfo) (z : Value) (hgd : o.guard = none) (ho : o.op = .call { callee := .builtin .append, args := #[s, y], argTypes := #[t, t] })
    (ht : P.underlying t = some (.slice e)) (hi : P.info? e = some i) (hz : i.zero = some z) (hsize : i.size = 1) (hby : i.bytes ≤ 64) (hzs : z.cells.size = 1) (hs : a.eval s = v) (hy : a.eval y = x) (h1 : ∀ u ∈ ys, u.oneCell' = true) (hlen : xs.length + ys.length ≤ 1099511627776) (hbase : base ≤ w.heap.size)
    (h : ∀ v' w', Owns w' base e v' (xs ++ ys) → w.grownBy w' v.ownBlock → wpList P ops Q rest (a.put o.dst v') w') : wpList P ops Q (o :: rest) a w := by
  refine wpList_plain hgd fun K hK => ?_
  obtain ⟨v', w', hr, h2, h3⟩ := srun_append_all (P := P) hown hx t o.type i z ht hi hz hsize hby hzs h1 hlen hbase
  unfold Oper.wp execOp
  simp only [ho, resolve, invoke, builtin, Sem.run_bind, Sem.run_pure, Result.andThen_ok, List.map_toArray, List.map_cons, List.map_nil, hs, hy, hr]
  exact hK _ _ (h v' w' h2 h3)
theorem sstep_append_all {K : Act → World → Prop} {E : Prop} (hown : Owns w base e v xs) (hx : Owns w b2 e x ys) (s y : Operand) (t : TypeId) (i : TypeInfo) (z : Value) (hgd : o.guard = none) (ho : o.op = .call { callee := .builtin .append, args := #[s, y], argTypes := #[t, t] })
    (ht : P.underlying t = some (.slice e)) (hi : P.info? e = some i) (hz : i.zero = some z) (hsize : i.size = 1) (hby : i.bytes ≤ 64) (hzs : z.cells.size = 1) (hs : a.eval s = v) (hy : a.eval y = x) (h1 : ∀ u ∈ ys, u.oneCell' = true) (hlen : xs.length + ys.length ≤ 1099511627776) (hbase : base ≤ w.heap.size)
    (h : ∀ v' w', Owns w' base e v' (xs ++ ys) → w.grownBy w' v.ownBlock → K (a.put o.dst v') w') : if Region.wanted o (yielded ops a.tmps) = true then Oper.wp P o a w K Q else E := by
  have hw : Region.wanted o (yielded ops a.tmps) = true := by simp [Region.wanted, hgd]
  rw [if_pos hw]
  obtain ⟨v', w', hr, h2, h3⟩ := srun_append_all (P := P) hown hx t o.type i z ht hi hz hsize hby hzs h1 hlen hbase
  unfold Oper.wp execOp
  simp only [ho, resolve, invoke, builtin, Sem.run_bind, Sem.run_pure, Result.andThen_ok, List.map_toArray, List.map_cons, List.map_nil, hs, hy, hr]
  exact h v' w' h2 h3
end
theorem sone_txs (ls : List (List UInt8)) : ∀ u ∈ ls.map tx, u.oneCell' = true := by
  intro u hu
  obtain ⟨x, _, rfl⟩ := List.mem_map.1 hu
  rfl
theorem sone_bools (l : List Bool) : ∀ u ∈ l.map Value.bool, u.oneCell' = true := by
  intro u hu
  obtain ⟨x, _, rfl⟩ := List.mem_map.1 hu
  rfl
/-- The four cells of a block. -/
theorem mem4 {w : World} {g : Nat} {t : TypeId} {x0 x1 x2 x3 : Value} (h : Mem w g t [x0, x1, x2, x3]) : (w.cell? ⟨g, 0, none⟩ = some x0 ∧ w.frozen? ⟨g, 0, none⟩ = false) ∧ (w.cell? ⟨g, 1, none⟩ = some x1 ∧ w.frozen? ⟨g, 1, none⟩ = false) ∧ (w.cell? ⟨g, 2, none⟩ = some x2 ∧ w.frozen? ⟨g, 2, none⟩ = false) ∧ (w.cell? ⟨g, 3, none⟩ = some x3 ∧ w.frozen? ⟨g, 3, none⟩ = false) :=
  ⟨⟨h.cell 0, h.frozen 0⟩, ⟨h.cell 1, h.frozen 1⟩, ⟨h.cell 2, h.frozen 2⟩, ⟨h.cell 3, h.frozen 3⟩⟩
end Go.Proofs.Ytjmmbafpiahhiaa
