/-
  Blocks by their types; frames by sets of blocks; a region that draws its order and only reads, in one walk.
-/
import Derived.Test.YtblfekecmahagaaDoorOidM
namespace Go.Proofs.YtblfekecmahagaaDoor
open Go.RowKit Crv

theorem ld_id (p : Value) : Instr.loadAt TI p = ldRow TI p := rfl
theorem ld_id_at {w : World} {b : Nat} {l : List UInt8} (h : Mem w b TI (l.map byteV)) (hl : l.length = 32) : (ldRow TI (.pointer (some ⟨b, 0, none⟩))).run Tryd.prog w = .ok (.agg (l.map byteV).toArray) w := by
  have := ldRow_at (P := Tryd.prog) Tryd.underlying35 (by kernel_rfl) w b 0 (h.hasRow 0 32 (by simp [hl]))
  rw [this, h.row 0 32 (l.map byteV) ⟨[], by simp⟩ (by simp [hl])]
/-- A block of cells of this type, none of them frozen. -/
def Tag (W : World) (b : Nat) (t : TypeId) : Prop := ∃ cs, W.heap[b]? = some (Obj.cells cs t (0, 0))
theorem Tag.lt {W : World} {b : Nat} {t : TypeId} (h : Tag W b t) : b < W.heap.size := by
  obtain ⟨cs, h⟩ := h
  exact (Array.getElem?_eq_some_iff.1 h).1
theorem Tag.frozen {W : World} {b : Nat} {t : TypeId} (h : Tag W b t) (i : Nat) : W.frozen? ⟨b, i, none⟩ = false := by
  obtain ⟨cs, h⟩ := h
  simp [World.frozen?, h]
theorem Tag.apart {W : World} {b b' : Nat} {t t' : TypeId} (h : Tag W b t) (h' : Tag W b' t') (hne : t ≠ t') : b ≠ b' := by
  obtain ⟨cs, h⟩ := h
  obtain ⟨cs', h'⟩ := h'
  rintro rfl
  rw [h] at h'
  injection h' with h'
  injection h' with _ h2 _
  exact hne h2
theorem Tag.of {W W' : World} {b : Nat} {t : TypeId} (h : Tag W b t) (hb : W'.heap[b]? = W.heap[b]?) : Tag W' b t := by
  obtain ⟨cs, h⟩ := h
  exact ⟨cs, hb.trans h⟩
theorem Tag.mem {W : World} {b : Nat} {t : TypeId} {cs : List Value} (h : Mem W b t cs) : Tag W b t := ⟨_, h⟩
theorem Tag.set {W : World} {b : Nat} {t : TypeId} (h : Tag W b t) (g i : Nat) (u : Value) : Tag (W.setCell ⟨g, i, none⟩ u) b t := by
  obtain ⟨cs, h⟩ := h
  by_cases e : b = g
  · subst e
    refine ⟨cs.setIfInBounds i u, ?_⟩
    simp [World.setCell, Array.getElem?_modify, h]
  · exact ⟨cs, (Below.heap_setCell W _ u b e).trans h⟩
theorem cell_set_same {W : World} {b i : Nat} {v u : Value} (h : W.cell? ⟨b, i, none⟩ = some v) : (W.setCell ⟨b, i, none⟩ u).cell? ⟨b, i, none⟩ = some u := World.cell?_setCell_same (h := h) ..
theorem cell_set_other {W : World} {b i : Nat} {p : Addr} {v u : Value} (h : W.cell? ⟨b, i, none⟩ = some v) (hne : ¬ (b = p.block ∧ i = p.off)) : (W.setCell p u).cell? ⟨b, i, none⟩ = some v := by
  rw [World.cell?_setCell_other (h := fun e => hne (by rw [e]; exact ⟨rfl, rfl⟩))]
  exact h
theorem owns_tag {W : World} {base : Nat} {e : TypeId} {v : Value} {xs : List Value} (h : Owns W base e v xs) : ∀ g, v.ownBlock = some g → Tag W g e := by
  intro g hg
  rcases h.2 with ⟨rfl, _⟩ | ⟨g', cap, cur, rfl, h1, h2, h3⟩
  · cases hg
  · have : g' = g := by simpa [Value.ownBlock] using hg
    subst this
    exact ⟨_, h2⟩
/-- What a call leaves alone: every block but those of F. -/
structure Fr (F : Nat → Prop) (W W' : World) : Prop where
  os : W'.os = W.os
  tape : W'.tape = W.tape
  output : W'.output = W.output
  size : W.heap.size ≤ W'.heap.size
  block : ∀ k, k < W.heap.size → ¬ F k → W'.heap[k]? = W.heap[k]?
theorem Fr.refl (F : Nat → Prop) (W : World) : Fr F W W := ⟨rfl, rfl, rfl, Nat.le_refl _, fun _ _ _ => rfl⟩
theorem Fr.trans {F F' : Nat → Prop} {a b c : World} (h : Fr F a b) (k : Fr F' b c) (hF : ∀ i, F' i → F i ∨ a.heap.size ≤ i) : Fr F a c :=
  ⟨k.os.trans h.os, k.tape.trans h.tape, k.output.trans h.output, Nat.le_trans h.size k.size, fun i hi hn => (k.block i (Nat.lt_of_lt_of_le hi h.size) (fun e => by rcases hF i e with h1 | h1; exact hn h1; omega)).trans (h.block i hi hn)⟩
theorem Fr.mono {F F' : Nat → Prop} {a b : World} (h : Fr F a b) (hF : ∀ i, F i → F' i) : Fr F' a b := ⟨h.os, h.tape, h.output, h.size, fun k hk hn => h.block k hk (fun e => hn (hF k e))⟩
theorem Fr.of_below {F : Nat → Prop} {a b : World} (h : Below a.heap.size a b) : Fr F a b := ⟨h.os, h.tape, h.output, h.size, fun k hk _ => h.block k hk⟩
theorem Fr.of_grown {F : Nat → Prop} {a b : World} {r : Option Nat} (h : a.grownBy b r) (hF : ∀ k, r = some k → F k) : Fr F a b := ⟨h.os, h.tape, h.output, h.size, fun k hk hn => h.block k hk (fun e => hn (hF k e.symm))⟩
theorem Fr.below {F : Nat → Prop} {B : Nat} {a b : World} (h : Fr F a b) (hF : ∀ k, k < B → ¬ F k) (hB : B ≤ a.heap.size) : Below B a b := ⟨h.os, h.tape, h.output, h.size, fun k hk => h.block k (by omega) (hF k hk)⟩
theorem Fr.set {F : Nat → Prop} {a : World} (p : Addr) (u : Value) (hp : F p.block) : Fr F a (a.setCell p u) := ⟨rfl, rfl, rfl, by simp [World.setCell], fun k _ hn => Below.heap_setCell a p u k (fun e => hn (e ▸ hp))⟩
/-- F, and what is new. -/
abbrev And_new (F : Nat → Prop) (W : World) : Nat → Prop := fun b => F b ∨ W.heap.size ≤ b
theorem below_own {w0 w w' : World} {v : Value} (h : Below w0.heap.size w0 w) (hg : w.grownBy w' v.ownBlock) (hs : ∀ g, v.ownBlock = some g → w0.heap.size ≤ g) : Below w0.heap.size w0 w' :=
  ⟨hg.os.trans h.os, hg.tape.trans h.tape, hg.output.trans h.output, Nat.le_trans h.size hg.size, fun k hk => (hg.block k (Nat.lt_of_lt_of_le hk h.size) (fun e => by have := hs k e.symm; omega)).trans (h.block k hk)⟩
theorem wp_max0 {P : Program} {ops : Array Oper} {rest : List Oper} {o : Oper} {a : Act} {w : World} {Q : Exit → Act → World → Prop} {c d : Int} {t : TypeId} (x y : Operand) (hgd : o.guard = none)
    (ho : o.op = .call { callee := .builtin .max, args := #[x, y], argTypes := #[t, t] }) (hx : a.eval x = .int .i64 c) (hy : a.eval y = .int .i64 d) (h : wpList P ops Q rest (a.put o.dst (.int .i64 (max c d))) w) : wpList P ops Q (o :: rest) a w := by
  refine wpList_plain hgd fun K hK => ?_
  have hr : (Builtin.max_ #[t, t] o.type #[.int .i64 c, .int .i64 d]).run P w = .ok (.int .i64 (max c d)) w := by
    rw [run_max_int2]
    congr 2
    split <;> omega
  unfold Oper.wp execOp
  simp only [ho, resolve, invoke, builtin, Sem.run_bind, Sem.run_pure, Result.andThen_ok, List.map_toArray, List.map_cons, List.map_nil, hx, hy, hr]
  exact hK _ _ h
theorem wp_min0 {P : Program} {ops : Array Oper} {rest : List Oper} {o : Oper} {a : Act} {w : World} {Q : Exit → Act → World → Prop} {c d r : Int} {t : TypeId} (x y : Operand) (hr0 : min c d = r) (hgd : o.guard = none)
    (ho : o.op = .call { callee := .builtin .min, args := #[x, y], argTypes := #[t, t] }) (hx : a.eval x = .int .i64 c) (hy : a.eval y = .int .i64 d) (h : wpList P ops Q rest (a.put o.dst (.int .i64 r)) w) : wpList P ops Q (o :: rest) a w := by
  refine wpList_plain hgd fun K hK => ?_
  have hr : (Builtin.min_ #[t, t] o.type #[.int .i64 c, .int .i64 d]).run P w = .ok (.int .i64 r) w := by
    rw [run_min_int2, ← hr0]
    congr 2
    split <;> omega
  unfold Oper.wp execOp
  simp only [ho, resolve, invoke, builtin, Sem.run_bind, Sem.run_pure, Result.andThen_ok, List.map_toArray, List.map_cons, List.map_nil, hx, hy, hr]
  exact hK _ _ h
section
variable {P : Program} {ops : Array Oper} {rest : List Oper} {o : Oper} {a : Act} {w : World} {Q : Exit → Act → World → Prop} {base : Nat} {e : TypeId} {v : Value} {xs : List Value}
/-- append(s, x..) at a plain region's list: what is turned, and where the row lies then. -/
theorem wp_append_gr (hown : Owns w base e v xs) (news : List Value) (s x : Operand) (t : TypeId) (i : TypeInfo) (z : Value) (hgd : o.guard = none) (ho : o.op = .call { callee := .builtin .append, args := #[s, x], argTypes := #[t, t] })
    (ht : P.underlying t = some (.slice e)) (hi : P.info? e = some i) (hz : i.zero = some z) (hsize : i.size = 1) (hby : i.bytes ≤ 64) (hzs : z.cells.size = 1)
    (hs : a.eval s = v) {g c : Nat} (hx : a.eval x = .slice (some ⟨g, 0, none⟩) news.length c) (hnews : ∀ j u, news[j]? = some u → w.cell? ⟨g, j, none⟩ = some u) (h1 : ∀ u ∈ news, u.oneCell' = true)
    (hlen : xs.length + news.length ≤ 1099511627776) (hbase : base ≤ w.heap.size)
    (h : ∀ v' w', Owns w' base e v' (xs ++ news) → w.grownBy w' v.ownBlock → (v'.ownBlock = v.ownBlock ∨ v'.ownBlock = some w.heap.size) → wpList P ops Q rest (a.put o.dst v') w') : wpList P ops Q (o :: rest) a w := by
  refine wpList_plain hgd fun K hK => ?_
  obtain ⟨v', w', hr, h2, h3, h4, h5⟩ := run_append_keep (P := P) hown news t o.type i z ht hi hz hsize hby hzs (c := c) hnews h1 hlen hbase
  unfold Oper.wp execOp
  simp only [ho, resolve, invoke, builtin, Sem.run_bind, Sem.run_pure, Result.andThen_ok, List.map_toArray, List.map_cons, List.map_nil, hs, hx, hr]
  exact hK _ _ (h v' w' h2 h3 h4)
end
abbrev iv (n : Int) : Value := .int .i64 n
abbrev Tin : TypeId := 3
abbrev Tis : TypeId := 23
theorem int_inf : ∃ i, Tryd.prog.info? Tin = some i ∧ i.zero = some (iv 0) ∧ i.size = 1 ∧ i.bytes = 8 := info_of (by kernel_rfl)
/-- A world behind w: what was there stands. -/
structure Bw (w : World) where
  W : World
  h : Below w.heap.size w W
instance (w : World) : Inhabited (Bw w) := ⟨⟨w, Below.refl _ _⟩⟩
theorem wp_region_bw {P : Program} {id : Nat} {Q : Exit → Act → World → Prop} {a : Act} {w : World} {l : List Oper} (hm : P.follows .mixedOrders = true) (hB : Region.lexB .any l.toArray = true)
    (h : wpQuiet P l.toArray (fun w' => ∃ p : Bw w, w' = p.W) (fun a' => ∀ w', (∃ p : Bw w, w' = p.W) → Q .normal a' w') l a) : (Code.region id l.toArray true).wp P Q a w :=
  wp_region_quiet (C := fun w' => ∃ p : Bw w, w' = p.W) hm hB ⟨⟨w.drew, ⟨rfl, rfl, rfl, Nat.le_refl _, fun _ _ => rfl⟩⟩, rfl⟩ (by simpa using h)
theorem Bw.call {P : Program} {f : FuncId} {args : Array Value} {w : World} {p : Bw w} {v : Value} (h : Calls P f args p.W fun e w' => e = .returned v ∧ Below p.W.heap.size p.W w') : Calls P f args p.W fun e w' => e = .returned v ∧ ∃ q : Bw w, w' = q.W :=
  h.mono fun _ _ h => ⟨h.1, ⟨⟨_, belowThen p.h h.2⟩, rfl⟩⟩
end Go.Proofs.YtblfekecmahagaaDoor
