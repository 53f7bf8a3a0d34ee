/-
  A mesh in memory.
-/
import Derived.Test.YtbkknhlagohhhaaMsm0
namespace Go.Proofs.Ytbkknhlagohhhaa
open Go.RowKit Crv

abbrev Tms : TypeId := 104
abbrev Tbx : TypeId := 107
abbrev Tss : TypeId := 79
abbrev Tst : TypeId := 9
/-- A block of cells of this type, none of them frozen. -/
def Tag (W : World) (b : Nat) (t : TypeId) : Prop := ∃ cs, W.heap[b]? = some (Obj.cells cs t (0, 0))
theorem Tag.lt {W : World} {b : Nat} {t : TypeId} (h : Tag W b t) : b < W.heap.size := by
  obtain ⟨cs, h⟩ := h
  exact (Array.getElem?_eq_some_iff.1 h).1
theorem Tag.frozen {W : World} {b : Nat} {t : TypeId} (h : Tag W b t) (i : Nat) : W.frozen? ⟨b, i, none⟩ = false := by
  obtain ⟨cs, h⟩ := h
  simp [World.frozen?, h]
theorem Tag.apart {W : World} {b b' : Nat} {t t' : TypeId} (h : Tag W b t) (h' : Tag W b' t') (hne : t ≠ t') : b ≠ b' := by
  obtain ⟨cs, h⟩ := h
  obtain ⟨cs', h'⟩ := h'
  rintro rfl
  rw [h] at h'
  injection h' with h'
  injection h' with _ h2 _
  exact hne h2
theorem Tag.of {W W' : World} {b : Nat} {t : TypeId} (h : Tag W b t) (hb : W'.heap[b]? = W.heap[b]?) : Tag W' b t := by
  obtain ⟨cs, h⟩ := h
  exact ⟨cs, hb.trans h⟩
theorem Tag.mem {W : World} {b : Nat} {t : TypeId} {cs : List Value} (h : Mem W b t cs) : Tag W b t := ⟨_, h⟩
theorem Tag.set {W : World} {b : Nat} {t : TypeId} (h : Tag W b t) (g i : Nat) (u : Value) : Tag (W.setCell ⟨g, i, none⟩ u) b t := by
  obtain ⟨cs, h⟩ := h
  by_cases e : b = g
  · subst e
    refine ⟨cs.setIfInBounds i u, ?_⟩
    simp [World.setCell, Array.getElem?_modify, h]
  · exact ⟨cs, (Below.heap_setCell W _ u b e).trans h⟩
theorem cell_set_same {W : World} {b i : Nat} {v u : Value} (h : W.cell? ⟨b, i, none⟩ = some v) : (W.setCell ⟨b, i, none⟩ u).cell? ⟨b, i, none⟩ = some u := World.cell?_setCell_same (h := h) ..
theorem cell_set_other {W : World} {b i : Nat} {p : Addr} {v u : Value} (h : W.cell? ⟨b, i, none⟩ = some v) (hne : ¬ (b = p.block ∧ i = p.off)) : (W.setCell p u).cell? ⟨b, i, none⟩ = some v := by
  rw [World.cell?_setCell_other (h := fun e => hne (by rw [e]; exact ⟨rfl, rfl⟩))]
  exact h

/-- A mesh in memory: its block, its boxes', its rows' of queues, the queues. -/
structure Msh (W : World) (mb bb : Nat) (qb : Nat → Nat) (sv : Nat → Nat → Value) (x : MS) : Prop where
  tmb : Tag W mb Tms
  tbb : Tag W bb Tbx
  tqb : ∀ t, t < x.n → Tag W (qb t) Tss
  boxes : W.cell? ⟨mb, 0, none⟩ = some (.slice (some ⟨bb, 0, none⟩) x.n x.n)
  lostc : W.cell? ⟨mb, 1, none⟩ = some (.int .i64 x.lost)
  queues : ∀ t, t < x.n → W.cell? ⟨bb, t * 2, none⟩ = some (.slice (some ⟨qb t, 0, none⟩) x.n x.n)
  served : ∀ t, t < x.n → W.cell? ⟨bb, t * 2 + 1, none⟩ = some (.int .i64 ((x.s1 t : Int) - 1))
  que : ∀ t f, t < x.n → f < x.n → W.cell? ⟨qb t, f, none⟩ = some (sv t f)
  own : ∀ t f, t < x.n → f < x.n → Owns W 0 Tst (sv t f) ((x.q t f).map tx)
  qne : ∀ t t', t < x.n → t' < x.n → qb t = qb t' → t = t'
  one : ∀ t f t' f' b, t < x.n → f < x.n → t' < x.n → f' < x.n → (sv t f).ownBlock = some b → (sv t' f').ownBlock = some b → t = t' ∧ f = f'
  n64 : x.n ≤ 64
  le8 : ∀ t f, (x.q t f).length ≤ 8
  s64 : ∀ t, t < x.n → x.s1 t ≤ x.n
/-- The blocks of a mesh. -/
def Foot (mb bb : Nat) (qb : Nat → Nat) (sv : Nat → Nat → Value) (n b : Nat) : Prop := b = mb ∨ b = bb ∨ (∃ t, t < n ∧ b = qb t) ∨ ∃ t f, t < n ∧ f < n ∧ (sv t f).ownBlock = some b
section
variable {W W' : World} {mb bb : Nat} {qb : Nat → Nat} {sv : Nat → Nat → Value} {x : MS}
theorem owns_tag {W : World} {base : Nat} {e : TypeId} {v : Value} {xs : List Value} (h : Owns W base e v xs) : ∀ g, v.ownBlock = some g → Tag W g e := by
  intro g hg
  rcases h.2 with ⟨rfl, _⟩ | ⟨g', cap, cur, rfl, h1, h2, h3⟩
  · cases hg
  · have : g' = g := by simpa [Value.ownBlock] using hg
    subst this
    exact ⟨_, h2⟩
theorem Msh.lt (h : Msh W mb bb qb sv x) {b : Nat} (hf : Foot mb bb qb sv x.n b) : b < W.heap.size := by
  rcases hf with rfl | rfl | ⟨t, ht, rfl⟩ | ⟨t, f, ht, hf, ho⟩
  · exact h.tmb.lt
  · exact h.tbb.lt
  · exact (h.tqb t ht).lt
  · exact ((h.own t f ht hf).lt b ho).1
theorem Msh.of (h : Msh W mb bb qb sv x) (hb : ∀ b, Foot mb bb qb sv x.n b → W'.heap[b]? = W.heap[b]?) : Msh W' mb bb qb sv x := by
  have h1 := hb mb (.inl rfl)
  have h2 := hb bb (.inr (.inl rfl))
  have h3 := fun t ht => hb (qb t) (.inr (.inr (.inl ⟨t, ht, rfl⟩)))
  refine ⟨h.tmb.of h1, h.tbb.of h2, fun t ht => (h.tqb t ht).of (h3 t ht), ?_, ?_, fun t ht => ?_, fun t ht => ?_, fun t f ht hf => ?_, fun t f ht hf => ?_, h.qne, h.one, h.n64, h.le8, h.s64⟩
  · exact (World.cell?_of_block (a := ⟨mb, 0, none⟩) h1).trans h.boxes
  · exact (World.cell?_of_block (a := ⟨mb, 1, none⟩) h1).trans h.lostc
  · exact (World.cell?_of_block (a := ⟨bb, t * 2, none⟩) h2).trans (h.queues t ht)
  · exact (World.cell?_of_block (a := ⟨bb, t * 2 + 1, none⟩) h2).trans (h.served t ht)
  · exact (World.cell?_of_block (a := ⟨qb t, f, none⟩) (h3 t ht)).trans (h.que t f ht hf)
  · exact (h.own t f ht hf).of_below fun g hg => hb g (.inr (.inr (.inr ⟨t, f, ht, hf, hg⟩)))
theorem Msh.below (h : Msh W mb bb qb sv x) (hb : Below W.heap.size W W') : Msh W' mb bb qb sv x := h.of fun b hf => hb.block b (h.lt hf)
theorem Msh.setLost (h : Msh W mb bb qb sv x) (k : Nat) : Msh (W.setCell ⟨mb, 1, none⟩ (.int .i64 k)) mb bb qb sv { x with lost := k } := by
  have e1 : bb ≠ mb := (h.tmb.apart h.tbb (by decide)).symm
  have e2 : ∀ t, t < x.n → qb t ≠ mb := fun t ht => (h.tmb.apart (h.tqb t ht) (by decide)).symm
  refine ⟨h.tmb.set _ _ _, h.tbb.set _ _ _, fun t ht => (h.tqb t ht).set _ _ _, ?_, ?_, fun t ht => ?_, fun t ht => ?_, fun t f ht hf => ?_, fun t f ht hf => ?_, h.qne, h.one, h.n64, h.le8, h.s64⟩
  · exact cell_set_other h.boxes (by simp)
  · exact cell_set_same h.lostc
  · exact cell_set_other (h.queues t ht) (fun e => e1 e.1)
  · exact cell_set_other (h.served t ht) (fun e => e1 e.1)
  · exact cell_set_other (h.que t f ht hf) (fun e => e2 t ht e.1)
  · exact (h.own t f ht hf).of_below fun g hg => Below.heap_setCell _ _ _ _ ((owns_tag (h.own t f ht hf) g hg).apart h.tmb (by decide))
theorem Msh.setServed (h : Msh W mb bb qb sv x) (t0 k : Nat) (ht0 : t0 < x.n) (hk : k ≤ x.n) : Msh (W.setCell ⟨bb, t0 * 2 + 1, none⟩ (.int .i64 ((k : Int) - 1))) mb bb qb sv { x with s1 := upd1 x.s1 t0 k } := by
  have e1 : mb ≠ bb := h.tmb.apart h.tbb (by decide)
  have e2 : ∀ t, t < x.n → qb t ≠ bb := fun t ht => (h.tbb.apart (h.tqb t ht) (by decide)).symm
  refine ⟨h.tmb.set _ _ _, h.tbb.set _ _ _, fun t ht => (h.tqb t ht).set _ _ _, ?_, ?_, fun t ht => ?_, fun t ht => ?_, fun t f ht hf => ?_, fun t f ht hf => ?_, h.qne, h.one, h.n64, h.le8, fun t ht => ?_⟩
  · exact cell_set_other h.boxes (fun e => e1 e.1)
  · exact cell_set_other h.lostc (fun e => e1 e.1)
  · exact cell_set_other (h.queues t ht) (fun e => by have := e.2; simp only at this; omega)
  · by_cases e : t = t0
    · subst e
      simp only [upd1_same]
      exact cell_set_same (h.served t ht)
    · simp only [upd1_other _ _ e]
      exact cell_set_other (h.served t ht) (fun e' => by have := e'.2; simp only at this; omega)
  · exact cell_set_other (h.que t f ht hf) (fun e => e2 t ht e.1)
  · exact (h.own t f ht hf).of_below fun g hg => Below.heap_setCell _ _ _ _ ((owns_tag (h.own t f ht hf) g hg).apart h.tbb (by decide))
  · by_cases e : t = t0
    · subst e; simp only [upd1_same]; exact hk
    · simp only [upd1_other _ _ e]; exact h.s64 t ht
/-- One queue is another one now; nothing else turned but what it owned. -/
theorem Msh.put (h : Msh W mb bb qb sv x) {t0 f0 : Nat} (ht0 : t0 < x.n) (hf0 : f0 < x.n) {v' : Value} {l : List (List UInt8)} (ho : Owns W' 0 Tst v' (l.map tx)) (hl : l.length ≤ 8)
    (hg : W.grownBy W' (sv t0 f0).ownBlock) (hat : v'.ownBlock = (sv t0 f0).ownBlock ∨ ∃ g, v'.ownBlock = some g ∧ W.heap.size ≤ g) :
    Msh (W'.setCell ⟨qb t0, f0, none⟩ v') mb bb qb (upd2 sv t0 f0 v') { x with q := upd2 x.q t0 f0 l } := by
  have hno : ∀ b, (sv t0 f0).ownBlock = some b → Tag W b Tst := owns_tag (h.own t0 f0 ht0 hf0)
  have hsame : ∀ b, b < W.heap.size → (sv t0 f0).ownBlock ≠ some b → W'.heap[b]? = W.heap[b]? := fun b hb hne => hg.block b hb (fun e => hne e.symm)
  have h1 : W'.heap[mb]? = W.heap[mb]? := hsame mb h.tmb.lt (fun e => (h.tmb.apart (hno mb e) (by decide)) rfl)
  have h2 : W'.heap[bb]? = W.heap[bb]? := hsame bb h.tbb.lt (fun e => (h.tbb.apart (hno bb e) (by decide)) rfl)
  have h3 : ∀ t, t < x.n → W'.heap[qb t]? = W.heap[qb t]? := fun t ht => hsame _ (h.tqb t ht).lt (fun e => ((h.tqb t ht).apart (hno _ e) (by decide)) rfl)
  have e1 : mb ≠ qb t0 := h.tmb.apart (h.tqb t0 ht0) (by decide)
  have e2 : bb ≠ qb t0 := h.tbb.apart (h.tqb t0 ht0) (by decide)
  have t3 : ∀ t, t < x.n → Tag W' (qb t) Tss := fun t ht => (h.tqb t ht).of (h3 t ht)
  refine ⟨(h.tmb.of h1).set _ _ _, (h.tbb.of h2).set _ _ _, fun t ht => (t3 t ht).set _ _ _, ?_, ?_, fun t ht => ?_, fun t ht => ?_, fun t f ht hf => ?_, fun t f ht hf => ?_, h.qne, ?_, h.n64, fun t f => ?_, h.s64⟩
  · exact cell_set_other ((World.cell?_of_block (a := ⟨mb, 0, none⟩) h1).trans h.boxes) (fun e => e1 e.1)
  · exact cell_set_other ((World.cell?_of_block (a := ⟨mb, 1, none⟩) h1).trans h.lostc) (fun e => e1 e.1)
  · exact cell_set_other ((World.cell?_of_block (a := ⟨bb, t * 2, none⟩) h2).trans (h.queues t ht)) (fun e => e2 e.1)
  · exact cell_set_other ((World.cell?_of_block (a := ⟨bb, t * 2 + 1, none⟩) h2).trans (h.served t ht)) (fun e => e2 e.1)
  · have hc := (World.cell?_of_block (a := ⟨qb t, f, none⟩) (h3 t ht)).trans (h.que t f ht hf)
    by_cases e : t = t0 ∧ f = f0
    · obtain ⟨rfl, rfl⟩ := e
      rw [upd2_same]
      exact cell_set_same hc
    · rw [upd2_other _ _ e]
      exact cell_set_other hc (fun e' => e ⟨h.qne t t0 ht ht0 e'.1, e'.2⟩)
  · by_cases e : t = t0 ∧ f = f0
    · obtain ⟨rfl, rfl⟩ := e
      simp only [upd2_same]
      exact ho.of_below fun g hg' => Below.heap_setCell _ _ _ _ ((owns_tag ho g hg').apart (t3 t ht) (by decide))
    · simp only [upd2_other _ _ e]
      have ho2 : Owns W' 0 Tst (sv t f) ((x.q t f).map tx) := (h.own t f ht hf).of_below fun g hg' => hsame g ((h.own t f ht hf).lt g hg').1 (fun e' => e (h.one t f t0 f0 g ht hf ht0 hf0 hg' e'))
      exact ho2.of_below fun g hg' => Below.heap_setCell _ _ _ _ ((owns_tag ho2 g hg').apart (t3 t0 ht0) (by decide))
  · intro t f t' f' b ht hf ht' hf' hb hb'
    have key : ∀ t f, t < x.n → f < x.n → ¬ (t = t0 ∧ f = f0) → (sv t f).ownBlock = some b → v'.ownBlock = some b → False := by
      intro t f ht hf hne hs hv
      rcases hat with hat | ⟨g, hat, hge⟩
      · exact hne (h.one t f t0 f0 b ht hf ht0 hf0 hs (hat ▸ hv))
      · have e : g = b := by rw [hat] at hv; injection hv
        have := ((h.own t f ht hf).lt b hs).1
        omega
    by_cases e : t = t0 ∧ f = f0 <;> by_cases e' : t' = t0 ∧ f' = f0
    · exact ⟨e.1.trans e'.1.symm, e.2.trans e'.2.symm⟩
    · obtain ⟨rfl, rfl⟩ := e
      rw [upd2_same] at hb
      rw [upd2_other _ _ e'] at hb'
      exact (key t' f' ht' hf' e' hb' hb).elim
    · obtain ⟨rfl, rfl⟩ := e'
      rw [upd2_same] at hb'
      rw [upd2_other _ _ e] at hb
      exact (key t f ht hf e hb hb').elim
    · rw [upd2_other _ _ e] at hb
      rw [upd2_other _ _ e'] at hb'
      exact h.one t f t' f' b ht hf ht' hf' hb hb'
  · by_cases e : t = t0 ∧ f = f0
    · obtain ⟨rfl, rfl⟩ := e
      simp only [upd2_same]; exact hl
    · simp only [upd2_other _ _ e]; exact h.le8 t f
end
/-- What a call leaves alone: every block but those of F. -/
structure Fr (F : Nat → Prop) (W W' : World) : Prop where
  os : W'.os = W.os
  tape : W'.tape = W.tape
  output : W'.output = W.output
  size : W.heap.size ≤ W'.heap.size
  block : ∀ k, k < W.heap.size → ¬ F k → W'.heap[k]? = W.heap[k]?
theorem Fr.refl (F : Nat → Prop) (W : World) : Fr F W W := ⟨rfl, rfl, rfl, Nat.le_refl _, fun _ _ _ => rfl⟩
theorem Fr.trans {F F' : Nat → Prop} {a b c : World} (h : Fr F a b) (k : Fr F' b c) (hF : ∀ i, F' i → F i ∨ a.heap.size ≤ i) : Fr F a c :=
  ⟨k.os.trans h.os, k.tape.trans h.tape, k.output.trans h.output, Nat.le_trans h.size k.size, fun i hi hn => (k.block i (Nat.lt_of_lt_of_le hi h.size) (fun e => by rcases hF i e with h1 | h1; exact hn h1; omega)).trans (h.block i hi hn)⟩
theorem Fr.mono {F F' : Nat → Prop} {a b : World} (h : Fr F a b) (hF : ∀ i, F i → F' i) : Fr F' a b := ⟨h.os, h.tape, h.output, h.size, fun k hk hn => h.block k hk (fun e => hn (hF k e))⟩
theorem Fr.of_below {F : Nat → Prop} {a b : World} (h : Below a.heap.size a b) : Fr F a b := ⟨h.os, h.tape, h.output, h.size, fun k hk _ => h.block k hk⟩
theorem Fr.of_grown {F : Nat → Prop} {a b : World} {r : Option Nat} (h : a.grownBy b r) (hF : ∀ k, r = some k → F k) : Fr F a b := ⟨h.os, h.tape, h.output, h.size, fun k hk hn => h.block k hk (fun e => hn (hF k e.symm))⟩
theorem Fr.below {F : Nat → Prop} {B : Nat} {a b : World} (h : Fr F a b) (hF : ∀ k, k < B → ¬ F k) (hB : B ≤ a.heap.size) : Below B a b := ⟨h.os, h.tape, h.output, h.size, fun k hk => h.block k (by omega) (hF k hk)⟩
theorem Fr.set {F : Nat → Prop} {a : World} (p : Addr) (u : Value) (hp : F p.block) : Fr F a (a.setCell p u) := ⟨rfl, rfl, rfl, by simp [World.setCell], fun k _ hn => Below.heap_setCell a p u k (fun e => hn (e ▸ hp))⟩
/-- A mesh, wherever its parts lie within F. -/
def Mx (W : World) (F : Nat → Prop) (mb : Nat) (x : MS) : Prop := ∃ bb qb sv, Msh W mb bb qb sv x ∧ ∀ b, Foot mb bb qb sv x.n b → F b
/-- F, and what is new. -/
abbrev And_new (F : Nat → Prop) (W : World) : Nat → Prop := fun b => F b ∨ W.heap.size ≤ b
theorem Mx.mono {W : World} {F F' : Nat → Prop} {mb : Nat} {x : MS} (h : Mx W F mb x) (hF : ∀ b, b < W.heap.size → F b → F' b) : Mx W F' mb x := by
  obtain ⟨bb, qb, sv, h1, h2⟩ := h
  exact ⟨bb, qb, sv, h1, fun b hb => hF b (h1.lt hb) (h2 b hb)⟩
theorem Mx.of {W W' : World} {F : Nat → Prop} {mb : Nat} {x : MS} (h : Mx W F mb x) (hb : ∀ b, b < W.heap.size → F b → W'.heap[b]? = W.heap[b]?) : Mx W' F mb x := by
  obtain ⟨bb, qb, sv, h1, h2⟩ := h
  exact ⟨bb, qb, sv, h1.of fun b hf => hb b (h1.lt hf) (h2 b hf), h2⟩
theorem Mx.below {W W' : World} {F : Nat → Prop} {mb : Nat} {x : MS} (h : Mx W F mb x) (hb : Below W.heap.size W W') : Mx W' F mb x := h.of fun b hlt _ => hb.block b hlt
end Go.Proofs.Ytbkknhlagohhhaa
