/-
  Slices whose elements take several cells: one that a call owns and grows, one that is read.
-/
import Derived.Test.YtblfekecmahagaaDoorBase
import Derived.Maps.AppendAt
namespace Go.Proofs.YtblfekecmahagaaDoor
open Go.RowKit Crv

/-- A slice value that owns a row of elements of m cells each. -/
def Rw (w : World) (base : Nat) (e : TypeId) (m : Nat) (v : Value) (xs : List (List Value)) : Prop := (∀ x ∈ xs, x.length = m) ∧ w.ownsRow base e m v xs.length xs.flatten
/-- A slice value that reads as a row of elements of m cells each. -/
def Rd (w : World) (m : Nat) (v : Value) (xs : List (List Value)) : Prop := ∃ a cap, v = .slice a xs.length cap ∧ xs.length ≤ cap ∧ ∀ i (hi : i < xs.length), ∃ g off, a = some ⟨g, off, none⟩ ∧ g < w.heap.size ∧ w.rangeAt g (off + i * m) xs[i]
theorem length_flat {m : Nat} {xs : List (List Value)} (h : ∀ x ∈ xs, x.length = m) : xs.flatten.length = xs.length * m := by
  induction xs with
  | nil => simp
  | cons x r ih =>
    rw [List.flatten_cons, List.length_append, h x (by simp), ih (fun y hy => h y (by simp [hy])), List.length_cons, Nat.succ_mul]
    omega
theorem flat_get {m : Nat} {xs : List (List Value)} (h : ∀ x ∈ xs, x.length = m) : ∀ (i : Nat) (hi : i < xs.length) (j : Nat), j < m → xs.flatten[i * m + j]? = xs[i][j]? := by
  induction xs with
  | nil => intro i hi; simp at hi
  | cons x r ih =>
    intro i hi j hj
    have hx := h x (by simp)
    rw [List.flatten_cons]
    cases i with
    | zero =>
      rw [List.getElem?_append_left (by omega)]
      simp
    | succ i =>
      rw [List.getElem?_append_right (by rw [hx, Nat.succ_mul]; omega), hx, show (i + 1) * m + j - m = i * m + j from by rw [Nat.succ_mul]; omega]
      exact ih (fun y hy => h y (by simp [hy])) i (by simpa using hi) j hj
theorem Rw.lt {w : World} {base : Nat} {e : TypeId} {m : Nat} {v : Value} {xs : List (List Value)} (h : Rw w base e m v xs) : ∀ g, v.ownBlock = some g → g < w.heap.size ∧ base ≤ g := by
  intro g hg
  rcases h.2.2 with ⟨rfl, _⟩ | ⟨g', cap, cur, rfl, h1, h2, h3⟩
  · cases hg
  · have : g' = g := by simpa [Value.ownBlock] using hg
    subst this
    exact ⟨(Array.getElem?_eq_some_iff.1 h2).1, h1⟩
theorem Rw.tag {w : World} {base : Nat} {e : TypeId} {m : Nat} {v : Value} {xs : List (List Value)} (h : Rw w base e m v xs) : ∀ g, v.ownBlock = some g → ∃ cs, w.heap[g]? = some (Obj.cells cs e (0, 0)) := by
  intro g hg
  rcases h.2.2 with ⟨rfl, _⟩ | ⟨g', cap, cur, rfl, h1, h2, h3⟩
  · cases hg
  · have : g' = g := by simpa [Value.ownBlock] using hg
    subst this
    exact ⟨_, h2⟩
theorem Rw.of_block {w w' : World} {base : Nat} {e : TypeId} {m : Nat} {v : Value} {xs : List (List Value)} (h : Rw w base e m v xs) (hb : ∀ g, v.ownBlock = some g → w'.heap[g]? = w.heap[g]?) : Rw w' base e m v xs := by
  refine ⟨h.1, h.2.1, ?_⟩
  rcases h.2.2 with h0 | ⟨g, cap, cur, rfl, h1, h2, h3⟩
  · exact .inl h0
  · exact .inr ⟨g, cap, cur, rfl, h1, (hb g rfl).trans h2, h3⟩
theorem Rw.below {w w' : World} {base : Nat} {e : TypeId} {m : Nat} {v : Value} {xs : List (List Value)} (h : Rw w base e m v xs) (hb : Below w.heap.size w w') : Rw w' base e m v xs := h.of_block fun g hg => hb.block g (h.lt g hg).1
theorem Rw.mono {w : World} {base base' : Nat} {e : TypeId} {m : Nat} {v : Value} {xs : List (List Value)} (h : Rw w base e m v xs) (hb : base' ≤ base) : Rw w base' e m v xs := by
  refine ⟨h.1, h.2.1, ?_⟩
  rcases h.2.2 with h0 | ⟨g, cap, cur, rfl, h1, h2⟩
  · exact .inl h0
  · exact .inr ⟨g, cap, cur, rfl, Nat.le_trans hb h1, h2⟩
theorem Rw.nil (w : World) (base : Nat) (e : TypeId) (m : Nat) : Rw w base e m (.slice none 0 0) [] := ⟨by simp, World.ownsRow_nil w base e m⟩
theorem Rw.new {w : World} {base : Nat} (e : TypeId) (m : Nat) (hb : base ≤ w.heap.size) : Rw (w.alloc (.cells #[] e)) base e m (.slice (some ⟨w.heap.size, 0, none⟩) 0 0) [] :=
  ⟨by simp, by simp, .inr ⟨w.heap.size, 0, #[], rfl, hb, Mem.new w e [], Nat.le_refl _, by simp [maxLen], by simp, by simp⟩⟩
theorem Rw.rd {w : World} {base : Nat} {e : TypeId} {m : Nat} {v : Value} {xs : List (List Value)} (h : Rw w base e m v xs) : Rd w m v xs := by
  have hall := h.1
  rcases h.2.2 with ⟨rfl, h0⟩ | ⟨g, cap, cur, rfl, h1, h2, h3, h4, h5, h6⟩
  · exact ⟨none, 0, by rw [h0], by omega, fun i hi => by omega⟩
  · refine ⟨_, _, rfl, h3, fun i hi => ⟨g, 0, rfl, (Array.getElem?_eq_some_iff.1 h2).1, fun j u hu => ?_⟩⟩
    have hx := hall xs[i] (List.getElem_mem hi)
    have hj : j < m := by
      have := (List.getElem?_eq_some_iff.1 hu).1
      omega
    have hlen : i * m + j < xs.length * m := by
      have : (i + 1) * m ≤ xs.length * m := Nat.mul_le_mul_right _ hi
      rw [Nat.succ_mul] at this
      omega
    have e := flat_get hall i hi j hj
    rw [hu, ← h6, List.getElem?_take_of_lt hlen] at e
    simp only [World.cell?, h2]
    simpa using e
theorem Rd.below {w w' : World} {m : Nat} {v : Value} {xs : List (List Value)} (h : Rd w m v xs) (hb : Below w.heap.size w w') : Rd w' m v xs := by
  obtain ⟨a, cap, hv, hcap, hc⟩ := h
  refine ⟨a, cap, hv, hcap, fun i hi => ?_⟩
  obtain ⟨g, off, ha, hlt, hr⟩ := hc i hi
  exact ⟨g, off, ha, Nat.lt_of_lt_of_le hlt hb.size, fun j u hu => (hb.cell (p := ⟨g, off + i * m + j, none⟩) hlt).trans (hr j u hu)⟩
theorem Rd.nil (w : World) (m : Nat) : Rd w m (.slice none 0 0) [] := ⟨none, 0, rfl, Nat.le_refl _, fun i hi => by simp at hi⟩
/-- Cells of blocks other than one that turns read as they did. -/
theorem Rd.grown {w w' : World} {m : Nat} {v : Value} {xs : List (List Value)} {row : Option Nat} (h : Rd w m v xs) (hg : w.grownBy w' row) (hne : ∀ g off cap, v = .slice (some ⟨g, off, none⟩) xs.length cap → some g ≠ row) : Rd w' m v xs := by
  obtain ⟨a, cap, hv, hcap, hc⟩ := h
  refine ⟨a, cap, hv, hcap, fun i hi => ?_⟩
  obtain ⟨g, off, ha, hlt, hr⟩ := hc i hi
  refine ⟨g, off, ha, Nat.lt_of_lt_of_le hlt hg.size, fun j u hu => hg.cell (hr j u hu) ?_⟩
  exact hne g off cap (by rw [hv, ha])

section
variable {P : Program} {ops : Array Oper} {rest : List Oper} {o : Oper} {a : Act} {w0 w : World} {Q : Exit → Act → World → Prop}
/-- A whole row out of the middle of a block. -/
theorem wp_load_row {b off : Nat} {cs : List Value} (hc : w.rangeAt b off cs) (ty : TypeId) (x : Operand) (d : TypeDesc) (hgd : o.guard = none) (ho : o.op = .load ty x) (hx : a.eval x = .pointer (some ⟨b, off, none⟩))
    (hu : P.underlying ty = some d) (hd : d.isRow = true) (hi : (P.info? ty).map (·.size) = some cs.length) (h : wpList P ops Q rest (a.put o.dst (.agg cs.toArray)) w) : wpList P ops Q (o :: rest) a w := by
  refine wpList_plain hgd fun K hK => ?_
  have hr := run_loadAt_mid (P := P) w b off ty cs d hc hu hd hi
  unfold Oper.wp execOp
  simp only [ho, hx, hr, Sem.run_bind, Sem.run_pure, Result.andThen_ok]
  exact hK _ _ h
/-- append(l, y...) of elements that lie together. -/
theorem wp_append_rows {base : Nat} {e : TypeId} {m : Nat} {v : Value} {xs : List (List Value)} (hown : Rw w base e m v xs) (B : Nat) (hB : Below B w0 w) (hBb : B ≤ base)
    (ys : List (List Value)) (hm0 : 0 < m) (hyl : ∀ y ∈ ys, y.length = m) (hx1 : ∀ y ∈ ys, ∀ u ∈ y, u.oneCell' = true) (s y : Operand) (t : TypeId) (i : TypeInfo) (z : Value) (by_ : Nat) (hgd : o.guard = none) (ho : o.op = .call { callee := .builtin .append, args := #[s, y], argTypes := #[t, t] })
    (ht : P.underlying t = some (.slice e)) (hi : P.info? e = some i) (hz : i.zero = some z) (hsize : i.size = m) (hby : i.bytes = by_) (hzs : z.cells.size = m) (hb64 : by_ ≤ 64)
    (hs : a.eval s = v) {ad : Addr} {c : Nat} (hx : a.eval y = .slice (some ad) ys.length c) (hnews : ∀ j u, ys.flatten[j]? = some u → w.cell? (ad.add j) = some u)
    (hlen : xs.length + ys.length ≤ 1000000000) (hbase : base ≤ w.heap.size)
    (h : ∀ v' w', Rw w' base e m v' (xs ++ ys) → Below B w0 w' → w.heap.size ≤ w'.heap.size → w.grownBy w' v.ownBlock → (v'.ownBlock = v.ownBlock ∨ v'.ownBlock = some w.heap.size) → wpList P ops Q rest (a.put o.dst v') w') : wpList P ops Q (o :: rest) a w := by
  have hml : (xs.length + ys.length) * by_ ≤ 1000000000 * 64 := Nat.mul_le_mul hlen hb64
  refine wpList_append_own_at (P := P) w hgd s y t ho base e i z m by_ ht hi hz hsize hby hzs hm0 v xs.length xs.flatten hs hown.2 ad ys.length c ys.flatten hx (length_flat hyl) hnews (fun u hu => ?_) (by simp only [maxLen]; omega) (by omega) hbase ?_
  · obtain ⟨q, hq, hu⟩ := List.mem_flatten.1 hu
    exact hx1 q hq u hu
  · intro v' w' ho' hg _ hat
    have hlt := hown.lt
    refine h v' w' ⟨fun q hq => ?_, ?_⟩ (hB.trans ⟨hg.os, hg.tape, hg.output, hg.size, fun k hk => hg.block k (by omega) (fun e => by have := (hlt k e.symm).2; omega)⟩) hg.size hg hat
    · rcases List.mem_append.1 hq with h1 | h1
      · exact hown.1 q h1
      · exact hyl q h1
    · rw [List.length_append, List.flatten_append]
      exact ho'
/-- append(l, x) of one element. -/
theorem wp_append_row {base : Nat} {e : TypeId} {m : Nat} {v : Value} {xs : List (List Value)} (hown : Rw w base e m v xs) (B : Nat) (hB : Below B w0 w) (hBb : B ≤ base)
    (x : List Value) (hm0 : 0 < m) (hxl : x.length = m) (hx1 : ∀ u ∈ x, u.oneCell' = true) (s y : Operand) (t : TypeId) (i : TypeInfo) (z : Value) (by_ : Nat) (hgd : o.guard = none) (ho : o.op = .call { callee := .builtin .append, args := #[s, y], argTypes := #[t, t] })
    (ht : P.underlying t = some (.slice e)) (hi : P.info? e = some i) (hz : i.zero = some z) (hsize : i.size = m) (hby : i.bytes = by_) (hzs : z.cells.size = m) (hb64 : by_ ≤ 64)
    (hs : a.eval s = v) {g c : Nat} (hx : a.eval y = .slice (some ⟨g, 0, none⟩) 1 c) (hnews : ∀ j u, x[j]? = some u → w.cell? ⟨g, j, none⟩ = some u)
    (hlen : xs.length ≤ 900000000) (hbase : base ≤ w.heap.size)
    (h : ∀ v' w', Rw w' base e m v' (xs ++ [x]) → Below B w0 w' → w.heap.size ≤ w'.heap.size → w.grownBy w' v.ownBlock → (v'.ownBlock = v.ownBlock ∨ v'.ownBlock = some w.heap.size) → wpList P ops Q rest (a.put o.dst v') w') : wpList P ops Q (o :: rest) a w :=
  wp_append_rows hown B hB hBb [x] hm0 (by simpa using hxl) (by simpa using hx1) s y t i z by_ hgd ho ht hi hz hsize hby hzs hb64 hs hx (fun j u hu => by rw [add_plain]; exact hnews j u (by simpa using hu)) (by simp; omega) hbase h
end
end Go.Proofs.YtblfekecmahagaaDoor
