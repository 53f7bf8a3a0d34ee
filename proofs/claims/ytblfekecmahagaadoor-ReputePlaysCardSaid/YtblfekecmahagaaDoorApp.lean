/-
  append onto a slice of the call's own: what it leaves of the cells that were there; the law at a plain region's list and as a step of a region that draws its order. Slices that are only read.
-/
import Derived.Test.YtblfekecmahagaaDoorStr
import Derived.Deep.RegionLaw
import Derived.Deep.RegionHeld3
namespace Crv
open Go Go.RowKit

theorem add_plain (g j : Nat) : (⟨g, 0, none⟩ : Addr).add j = ⟨g, j, none⟩ := by unfold Addr.add; split <;> simp_all

/-- What append leaves: each cell that was there, but for the places behind the slice's end, reads as it did. -/
def Keeps (w : World) (v : Value) (n : Nat) (w' : World) : Prop := ∀ b i u, w.cell? ⟨b, i, none⟩ = some u → (v.ownBlock = some b → i < n) → w'.cell? ⟨b, i, none⟩ = some u

theorem run_append_keep {P : Program} {w : World} {base : Nat} {e : TypeId} {v : Value} {xs : List Value} (hown : Owns w base e v xs) (news : List Value) (t ty : TypeId) (i : TypeInfo) (z : Value)
    (ht : P.underlying t = some (.slice e)) (hi : P.info? e = some i) (hz : i.zero = some z) (hsize : i.size = 1) (hby : i.bytes ≤ 64) (hzs : z.cells.size = 1)
    {g c : Nat} (hnews : ∀ j u, news[j]? = some u → w.cell? ⟨g, j, none⟩ = some u) (h1 : ∀ u ∈ news, u.oneCell' = true) (hlen : xs.length + news.length ≤ 1099511627776) (hbase : base ≤ w.heap.size) :
    ∃ v' w', (Builtin.append_ #[t, t] ty #[v, .slice (some ⟨g, 0, none⟩) news.length c]).run P w = .ok v' w' ∧ Owns w' base e v' (xs ++ news) ∧ w.grownBy w' v.ownBlock ∧ (v'.ownBlock = v.ownBlock ∨ v'.ownBlock = some w.heap.size) ∧ Keeps w v xs.length w' := by
  have hb : (xs.length + news.length) * i.bytes ≤ 140737488355328 := by
    have : (xs.length + news.length) * i.bytes ≤ 1099511627776 * 64 := Nat.mul_le_mul hlen hby
    omega
  have hn' : ∀ j u, news[j]? = some u → w.cell? ((⟨g, 0, none⟩ : Addr).add j) = some u := fun j u hu => by rw [add_plain]; exact hnews j u hu
  obtain ⟨v', w', hr, ho, hg, _, hat⟩ := run_append_own_at (P := P) w base t ty e i z 1 i.bytes ht hi hz hsize rfl hzs (by omega) v xs.length xs hown ⟨g, 0, none⟩ news.length c news (by omega) hn' h1 (by simp only [maxLen]; omega) hb hbase
  refine ⟨v', w', hr, by unfold Owns; rw [List.length_append]; exact ho, hg, hat, ?_⟩
  intro b j u hc hj
  have halloc : ∀ o : Obj, (w.drew.alloc o).cell? ⟨b, j, none⟩ = some u := fun o =>
    (World.cell?_alloc_lt w.drew o ⟨b, j, none⟩ (World.block_lt_of_cell? w _ hc)).trans hc
  rcases hown.2 with ⟨rfl, h0⟩ | ⟨g', cap, cur, rfl, hbg, hgc, hnc, hcm, hcs, htake⟩
  · by_cases hm : news.length = 0
    · have hnil : news = [] := List.eq_nil_of_length_eq_zero hm
      subst hnil
      have hr2 : (Builtin.append_ #[t, t] ty #[.slice none 0 0, .slice (some ⟨g, 0, none⟩) ([] : List Value).length c]).run P w = .ok (.slice none 0 0) w := by
        simp [Builtin.append_, run_underlying ht, Go.sizeOf, typeInfo, hi, Builtin.lenOf, Builtin.firstCells, loadCells, loadCellsFrom]
      rw [hr2] at hr
      injection hr with _ hr
      subst hr
      exact hc
    · have hr2 := run_append_nil (P := P) w t ty e i z ht hi hz ⟨g, 0, none⟩ news.length c news (by rw [hsize, Nat.mul_one]) hn' (by omega) (by omega) (by
        rw [h0, Nat.zero_add] at hb; omega)
      rw [hr2] at hr
      injection hr with _ hr
      subst hr
      exact halloc _
  · by_cases hroom : xs.length + news.length ≤ cap
    · have hr2 := run_append_room (P := P) w t ty e i ht hi g' xs.length cap cur hgc ⟨g, 0, none⟩ news.length c news (by rw [hsize, Nat.mul_one]) hn' h1 hroom (by rw [hsize, hcs]; omega)
      rw [hr2] at hr
      injection hr with _ hr
      subst hr
      by_cases hbg' : b = g'
      · subst hbg'
        have hj' := hj rfl
        have hm : Mem w b e cur.toList := by unfold Mem; simpa using hgc
        have hm2 := hm.setRow (cur.toList.take (xs.length * i.size) ++ news ++ cur.toList.drop (xs.length * i.size + news.length))
        have hm3 := hm2.cell j
        have hcur : cur.toList[j]? = some u := by rw [← hm.cell j]; exact hc
        rw [List.append_assoc, List.getElem?_append_left (by rw [List.length_take, hsize]; simp [hcs]; omega), List.getElem?_take_of_lt (by rw [hsize]; omega), hcur] at hm3
        rw [List.append_assoc]
        exact hm3
      · exact (World.cell?_of_block (heap_setRow_other w g' b _ hbg')).trans hc
    · have holds : ∀ j u, xs[j]? = some u → w.cell? ((⟨g', 0, none⟩ : Addr).add j) = some u := World.ownsRow.cells hown (g := g') rfl
      have hr2 := run_append_grow (P := P) w t ty e i z ht hi hz ⟨g', 0, none⟩ xs.length cap xs (by rw [hsize, Nat.mul_one]) holds ⟨g, 0, none⟩ news.length c news (by rw [hsize, Nat.mul_one]) hn' (by omega) (by omega) (growslice_fits (by omega) hb)
      rw [hr2] at hr
      injection hr with _ hr
      subst hr
      exact halloc _

section
variable {P : Program} {ops : Array Oper} {rest : List Oper} {o : Oper} {a : Act} {w0 w : World} {Q : Exit → Act → World → Prop} {base : Nat} {e : TypeId} {v : Value} {xs : List Value}
theorem below_grown {w' : World} {B : Nat} (hown : Owns w base e v xs) (hB : Below B w0 w) (hBb : B ≤ base) (hbase : base ≤ w.heap.size) (hg : w.grownBy w' v.ownBlock) : Below B w0 w' :=
  hB.trans ⟨hg.os, hg.tape, hg.output, hg.size, fun k hk => hg.block k (by omega) (fun e => by have := (hown.lt k e.symm).2; omega)⟩
/-- append(s, x..) at a plain region's list. -/
theorem wp_append_keep (hown : Owns w base e v xs) (B : Nat) (hB : Below B w0 w) (hBb : B ≤ base)
    (news : List Value) (s x : Operand) (t : TypeId) (i : TypeInfo) (z : Value) (hgd : o.guard = none) (ho : o.op = .call { callee := .builtin .append, args := #[s, x], argTypes := #[t, t] })
    (ht : P.underlying t = some (.slice e)) (hi : P.info? e = some i) (hz : i.zero = some z) (hsize : i.size = 1) (hby : i.bytes ≤ 64) (hzs : z.cells.size = 1)
    (hs : a.eval s = v) {g c : Nat} (hx : a.eval x = .slice (some ⟨g, 0, none⟩) news.length c) (hnews : ∀ j u, news[j]? = some u → w.cell? ⟨g, j, none⟩ = some u) (h1 : ∀ u ∈ news, u.oneCell' = true)
    (hlen : xs.length + news.length ≤ 1099511627776) (hbase : base ≤ w.heap.size)
    (h : ∀ v' w', Owns w' base e v' (xs ++ news) → Below B w0 w' → w.heap.size ≤ w'.heap.size → Keeps w v xs.length w' → wpList P ops Q rest (a.put o.dst v') w') : wpList P ops Q (o :: rest) a w := by
  refine wpList_plain hgd fun K hK => ?_
  obtain ⟨v', w', hr, h2, h3, h4, h5⟩ := run_append_keep (P := P) hown news t o.type i z ht hi hz hsize hby hzs (c := c) hnews h1 hlen hbase
  unfold Oper.wp execOp
  simp only [ho, resolve, invoke, builtin, Sem.run_bind, Sem.run_pure, Result.andThen_ok, List.map_toArray, List.map_cons, List.map_nil, hs, hx, hr]
  exact hK _ _ (h v' w' h2 (below_grown hown hB hBb hbase h3) h3.size h5)
/-- .. and as one step of a region that draws its order. -/
theorem step_append_keep {K : Act → World → Prop} {E : Prop} (hown : Owns w base e v xs) (B : Nat) (hB : Below B w0 w) (hBb : B ≤ base)
    (news : List Value) (s x : Operand) (t : TypeId) (i : TypeInfo) (z : Value) (hgd : o.guard = none) (ho : o.op = .call { callee := .builtin .append, args := #[s, x], argTypes := #[t, t] })
    (ht : P.underlying t = some (.slice e)) (hi : P.info? e = some i) (hz : i.zero = some z) (hsize : i.size = 1) (hby : i.bytes ≤ 64) (hzs : z.cells.size = 1)
    (hs : a.eval s = v) {g c : Nat} (hx : a.eval x = .slice (some ⟨g, 0, none⟩) news.length c) (hnews : ∀ j u, news[j]? = some u → w.cell? ⟨g, j, none⟩ = some u) (h1 : ∀ u ∈ news, u.oneCell' = true)
    (hlen : xs.length + news.length ≤ 1099511627776) (hbase : base ≤ w.heap.size)
    (h : ∀ v' w', Owns w' base e v' (xs ++ news) → Below B w0 w' → w.heap.size ≤ w'.heap.size → Keeps w v xs.length w' → K (a.put o.dst v') w') : if Region.wanted o (yielded ops a.tmps) = true then Oper.wp P o a w K Q else E := by
  have hw : Region.wanted o (yielded ops a.tmps) = true := by simp [Region.wanted, hgd]
  rw [if_pos hw]
  obtain ⟨v', w', hr, h2, h3, h4, h5⟩ := run_append_keep (P := P) hown news t o.type i z ht hi hz hsize hby hzs (c := c) hnews h1 hlen hbase
  unfold Oper.wp execOp
  simp only [ho, resolve, invoke, builtin, Sem.run_bind, Sem.run_pure, Result.andThen_ok, List.map_toArray, List.map_cons, List.map_nil, hs, hx, hr]
  exact h v' w' h2 (below_grown hown hB hBb hbase h3) h3.size h5
end

/-! ### Slices that are only read -/
/-- The slice value reads as these cells. -/
def Reads (w : World) (v : Value) (xs : List Value) : Prop := ∃ a cap, v = .slice a xs.length cap ∧ ∀ i, i < xs.length → ∃ b off, a = some ⟨b, off, none⟩ ∧ w.cell? ⟨b, off + i, none⟩ = xs[i]?
theorem Owns.reads {w : World} {base : Nat} {e : TypeId} {v : Value} {xs : List Value} (h : Owns w base e v xs) : Reads w v xs := by
  obtain ⟨a, cap, rfl, h1, h2, h3⟩ := h.form
  refine ⟨a, cap, rfl, fun i hi => ?_⟩
  obtain ⟨g, hg, _, hc⟩ := h3 i hi
  exact ⟨g, 0, hg, by rw [Nat.zero_add]; exact hc⟩
theorem Reads.below {w w' : World} {v : Value} {xs : List Value} (h : Reads w v xs) (hb : Below w.heap.size w w') : Reads w' v xs := by
  obtain ⟨a, cap, hv, hc⟩ := h
  refine ⟨a, cap, hv, fun i hi => ?_⟩
  obtain ⟨b, off, ha, hcell⟩ := hc i hi
  refine ⟨b, off, ha, ?_⟩
  have : w.cell? ⟨b, off + i, none⟩ = some (xs[i]) := by rw [hcell, List.getElem?_eq_getElem hi]
  rw [← hcell]
  exact hb.cell (p := ⟨b, off + i, none⟩) (World.block_lt_of_cell? w _ this)
end Crv
