/-
  Words of our own for slices that the call makes: a slice that owns its row; append; strings out of bytes.
-/
import Derived.Test.YtblfekecmahagaaDoorMem
import Derived.Maps.AppendAt
import Derived.Laws.OwnMore
import Derived.Laws.BytesArg
namespace Crv
open Go Go.RowKit

abbrev str (l : List UInt8) : ByteArray := ⟨l.toArray⟩
abbrev byteV (x : UInt8) : Value := .int .u8 x.toNat
abbrev wordV (x : Nat) : Value := .int .u32 x

theorem size_str (l : List UInt8) : (str l).size = l.length := rfl
theorem str_eq (s : ByteArray) : s = str s.data.toList := by cases s; rfl
theorem str_inj {a b : List UInt8} : str a = str b ↔ a = b := by
  constructor
  · intro h
    have := congrArg (fun s : ByteArray => s.data.toList) h
    simpa using this
  · rintro rfl; rfl

/-- A slice value that owns a row of one-cell elements. -/
def Owns (w : World) (base : Nat) (e : TypeId) (v : Value) (xs : List Value) : Prop := w.ownsRow base e 1 v xs.length xs

theorem Owns.of_below {w w' : World} {base : Nat} {e : TypeId} {v : Value} {xs : List Value} (h : Owns w base e v xs) (hb : ∀ g, v.ownBlock = some g → w'.heap[g]? = w.heap[g]?) : Owns w' base e v xs := by
  refine ⟨h.1, ?_⟩
  rcases h.2 with h0 | ⟨g, cap, cur, rfl, h1, h2, h3⟩
  · exact .inl h0
  · exact .inr ⟨g, cap, cur, rfl, h1, (hb g rfl).trans h2, h3⟩
theorem Owns.drewN {w : World} {base : Nat} {e : TypeId} {v : Value} {xs : List Value} (h : Owns w base e v xs) (n : Nat) : Owns (w.drewN n) base e v xs := h
theorem Owns.lt {w : World} {base : Nat} {e : TypeId} {v : Value} {xs : List Value} (h : Owns w base e v xs) : ∀ g, v.ownBlock = some g → g < w.heap.size ∧ base ≤ g := by
  intro g hg
  rcases h.2 with ⟨rfl, _⟩ | ⟨g', cap, cur, rfl, h1, h2, h3⟩
  · cases hg
  · have : g' = g := by simpa [Value.ownBlock] using hg
    subst this
    exact ⟨(Array.getElem?_eq_some_iff.1 h2).1, h1⟩
theorem Owns.alloc {w : World} {base : Nat} {e : TypeId} {v : Value} {xs : List Value} (h : Owns w base e v xs) (o : Obj) : Owns (w.alloc o) base e v xs :=
  h.of_below fun g hg => Below.heap_alloc w o g (h.lt g hg).1
theorem Owns.below {w w' : World} {base : Nat} {e : TypeId} {v : Value} {xs : List Value} (h : Owns w base e v xs) (hb : Below w.heap.size w w') : Owns w' base e v xs :=
  h.of_below fun g hg => hb.block g (h.lt g hg).1
theorem Owns.nil (w : World) (base : Nat) (e : TypeId) : Owns w base e (.slice none 0 0) [] := World.ownsRow_nil w base e 1
theorem Owns.of_mem {w : World} {base g : Nat} {e : TypeId} {cs : List Value} (h : Mem w g e cs) (hb : base ≤ g) (n cap : Nat) (hn : n ≤ cap) (hc : cs.length = cap) (hm : cap ≤ maxLen) {xs : List Value} (hx : cs.take n = xs) : Owns w base e (.slice (some ⟨g, 0, none⟩) n cap) xs := by
  have hl : xs.length = n := by rw [← hx, List.length_take]; omega
  unfold Owns World.ownsRow
  rw [hl]
  exact ⟨by omega, .inr ⟨g, cap, cs.toArray, rfl, hb, h, hn, hm, by simpa using hc, by simpa using hx⟩⟩
/-- What such a slice looks like. -/
theorem Owns.form {w : World} {base : Nat} {e : TypeId} {v : Value} {xs : List Value} (h : Owns w base e v xs) : ∃ a cap, v = .slice a xs.length cap ∧ xs.length ≤ cap ∧ cap ≤ maxLen ∧
    (∀ i, i < xs.length → ∃ g, a = some ⟨g, 0, none⟩ ∧ base ≤ g ∧ w.cell? ⟨g, i, none⟩ = xs[i]?) := by
  rcases h.2 with ⟨rfl, h0⟩ | ⟨g, cap, cur, rfl, h1, h2, h3, h4, h5, h6⟩
  · exact ⟨none, 0, by rw [h0], by omega, by simp [maxLen], fun i hi => by omega⟩
  · refine ⟨_, _, rfl, h3, h4, fun i hi => ⟨g, rfl, h1, ?_⟩⟩
    simp only [Nat.mul_one] at h6
    have hc : xs[i]? = cur.toList[i]? := by
      rw [← List.getElem?_take_of_lt (l := cur.toList) hi, h6]
    rw [hc]
    simp [World.cell?, h2]

/-- string(b) of bytes of the call's own. -/
theorem Owns.string {P : Program} {w : World} {base : Nat} {e src dst : TypeId} {v : Value} {l : List UInt8} (h : Owns w base e v (l.map byteV)) (hs : P.underlying src = some (.slice e)) (he : P.underlying e = some (.int .u8)) (hd : P.underlying dst = some .string) :
    (convert src dst v).run P w = .ok (.string (str l)) w := by
  obtain ⟨a, cap, rfl, h1, h2, h3⟩ := h.form
  simp only [List.length_map] at h1 h3 ⊢
  have hnums : strOfNums (l.map fun b => (b.toNat : Int)) = str l := by
    simp only [strOfNums, List.map_map, str]
    congr 2
    have : ((fun n : Int => UInt8.ofNat n.toNat) ∘ fun b : UInt8 => (b.toNat : Int)) = id := by
      funext b; simp
    rw [this, List.map_id]
  rcases a with _ | ad
  · cases l with
    | nil => exact run_convert_bytes_nil w src e hs he _ _ dst hd
    | cons x r => obtain ⟨g, hg, _⟩ := h3 0 (by simp); cases hg
  · have had : ∃ b off, ad = ⟨b, off, none⟩ ∧ ∀ i, i < l.length → w.cell? ⟨b, off + i, none⟩ = some (.int .u8 ((l.map fun b => (b.toNat : Int)).getD i 0)) := by
      cases l with
      | nil =>
        rcases h.2 with ⟨hv, _⟩ | ⟨g, cap', cur, hv, _⟩
        · cases hv
        · injection hv with h1 h2 h3
          injection h1 with h1
          exact ⟨g, 0, h1, fun i hi => by simp at hi⟩
      | cons x r =>
        obtain ⟨g, hg, _, _⟩ := h3 0 (by simp)
        injection hg with hg
        refine ⟨g, 0, hg, fun i hi => ?_⟩
        obtain ⟨g', hg', _, hc⟩ := h3 i hi
        injection hg' with hg'
        rw [hg] at hg'
        injection hg' with hg'
        subst hg'
        rw [Nat.zero_add, hc, List.getElem?_map, List.getElem?_eq_getElem hi, List.getD_eq_getElem?_getD, List.getElem?_map, List.getElem?_eq_getElem hi]
        rfl
    obtain ⟨b, off, rfl, hc⟩ := had
    have := run_convert_bytes_arg w src e hs he b off l.length cap (l.map fun b => (b.toNat : Int)) (by simp) hc dst hd
    rw [this, hnums]

theorem cell_news_one (w : World) (x : Value) (t : TypeId) : ∀ j u, [x][j]? = some u → (w.alloc (.cells #[x] t)).cell? ⟨w.heap.size, j, none⟩ = some u := by
  intro j u hu
  have h := (Mem.new w t [x]).cell j
  rw [hu] at h
  exact h
/-- append of what was just built. -/
theorem wp_append_news {P : Program} {ops : Array Oper} {rest : List Oper} {o : Oper} {a : Act} {w0 w : World} {Q : Exit → Act → World → Prop} {base : Nat} {e : TypeId} {v : Value} {xs : List Value} (hown : Owns w base e v xs) (B : Nat) (hB : Below B w0 w) (hBb : B ≤ base)
    (news : List Value) (s x : Operand) (t : TypeId) (i : TypeInfo) (z : Value) (hgd : o.guard = none) (ho : o.op = .call { callee := .builtin .append, args := #[s, x], argTypes := #[t, t] })
    (ht : P.underlying t = some (.slice e)) (hi : P.info? e = some i) (hz : i.zero = some z) (hsize : i.size = 1) (hby : i.bytes ≤ 64) (hzs : z.cells.size = 1)
    (hs : a.eval s = v) {g c : Nat} (hx : a.eval x = .slice (some ⟨g, 0, none⟩) news.length c) (hnews : ∀ j u, news[j]? = some u → w.cell? ⟨g, j, none⟩ = some u) (h1 : ∀ u ∈ news, u.oneCell' = true)
    (hlen : xs.length + news.length ≤ 1099511627776) (hbase : base ≤ w.heap.size)
    (h : ∀ v' w', Owns w' base e v' (xs ++ news) → Below B w0 w' → w.heap.size ≤ w'.heap.size → w.grownBy w' v.ownBlock → (v'.ownBlock = v.ownBlock ∨ v'.ownBlock = some w.heap.size) → wpList P ops Q rest (a.put o.dst v') w') : wpList P ops Q (o :: rest) a w := by
  refine wpList_append_own_at (P := P) w hgd s x t ho base e i z 1 i.bytes ht hi hz hsize rfl hzs (by omega) v xs.length xs hs hown ⟨g, 0, none⟩ news.length c news hx (by omega) ?_ h1 (by simp only [maxLen]; omega) ?_ hbase ?_
  · intro j u hu
    have : (⟨g, 0, none⟩ : Addr).add j = ⟨g, j, none⟩ := by unfold Addr.add; split <;> simp_all
    rw [this]
    exact hnews j u hu
  · have : (xs.length + news.length) * i.bytes ≤ 1099511627776 * 64 := Nat.mul_le_mul hlen hby
    omega
  · intro v' w' ho' hg _ hat
    have hlt := hown.lt
    refine h v' w' (by unfold Owns; rw [List.length_append]; exact ho') ?_ hg.size hg hat
    exact hB.trans ⟨hg.os, hg.tape, hg.output, hg.size, fun k hk => hg.block k (by omega) (fun e => by have := (hlt k e.symm).2; omega)⟩
end Crv
