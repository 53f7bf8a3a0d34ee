/-
  Tables that a law has made; awake of layer 21; ProviderLonger: the walk.
-/
import Derived.Test.YtilmidddhkofaaaPm10
namespace Go.Proofs.Ytilmidddhkofaaa
open Go.RowKit Go.Maps Crv

/-- What is new since base, but for these blocks. -/
abbrev Ex (base : Nat) (S : List Nat) : Nat → Prop := fun b => base ≤ b ∧ b ∉ S
theorem Fr.ex {base : Nat} {S : List Nat} {W W' : World} (h : Fr (Ex base S) W W') (hb : base ≤ W.heap.size) : Below base W W' := h.below (fun k hk hF => by have := hF.1; omega) hb
/-- A table that a law has made since W0, beside the blocks S that are kept. -/
structure TB (W0 : World) (S : List Nat) (t : Nat) (V : PV) (w : World) : Prop where
  b : Pv w (Ex W0.heap.size S) t V
  below : Below W0.heap.size W0 w
  s : ∀ s ∈ S, s < w.heap.size
section
variable {W0 w w' : World} {S : List Nat} {t : Nat} {V V' : PV} {x : List UInt8} {a u now : Int}
theorem TB.next (h : TB W0 S t V w) (hx : Pv w' (And_new (Ex W0.heap.size S) w) t V') (hf : Fr (Ex W0.heap.size S) w w') : TB W0 S t V' w' := by
  have hb := hf.ex h.below.size
  refine ⟨hx.mono fun b _ hF => ?_, h.below.trans hb, fun s hs => Nat.lt_of_lt_of_le (h.s s hs) hf.size⟩
  rcases hF with hF | hF
  · exact hF
  · exact ⟨Nat.le_trans h.below.size hF, fun hs => by have := h.s b hs; omega⟩
theorem TB.on (h : TB W0 S t V w) (hb : Below w.heap.size w w') : TB W0 S t V w' := ⟨h.b.below hb, belowThen h.below hb, fun s hs => Nat.lt_of_lt_of_le (h.s s hs) hb.size⟩
theorem TB.turn (h : TB W0 S t V w) {g : Nat} (hS : g ∈ S) (hW : W0.heap.size ≤ g) (hg : w.grownBy w' (some g)) : TB W0 S t V w' := by
  refine ⟨h.b.of fun b hlt hF => hg.block b hlt (fun e => ?_), belowNew h.below hg hW, fun s hs => Nat.lt_of_lt_of_le (h.s s hs) hg.size⟩
  injection e with e
  subst e
  exact hF.2 hS
theorem TB.add (h : TB W0 S t V w) (o : Obj) : TB W0 (w.heap.size :: S) t V (w.alloc o) := by
  have h1 := h.on (belowSelf w o)
  refine ⟨(h.b.mono (F' := Ex W0.heap.size (w.heap.size :: S)) fun b hlt hF => ⟨hF.1, fun hs => ?_⟩).below (belowSelf w o), h1.below, fun s hs => ?_⟩
  · rcases List.mem_cons.1 hs with e | hs
    · omega
    · exact hF.2 hs
  · rcases List.mem_cons.1 hs with e | hs
    · rw [e]; simp
    · exact h1.s s hs
theorem TB.make (hb : Below W0.heap.size W0 w) : Calls Try.prog 8 #[] w fun e w' => e = .returned (.pointer (some ⟨w.heap.size + 1, 0, none⟩)) ∧ TB W0 [] (w.heap.size + 1) [] w' :=
  (pnew_any w).mono fun _ _ ⟨q1, q2, q3, _⟩ => ⟨q1, ⟨⟨w.heap.size, [], q2, rfl, fun k hk => by
    rcases hk with rfl | rfl | ⟨r, hr, _⟩
    · exact ⟨by have := hb.size; omega, by simp⟩
    · exact ⟨hb.size, by simp⟩
    · simp at hr⟩, belowThen hb q3, by simp⟩⟩
theorem TB.put (h : TB W0 S t V w) (hx : x.length = 32) (hu : In64 u) : Calls Try.prog 10 #[.pointer (some ⟨t, 0, none⟩), nmV x, iv a, iv u] w fun e w' =>
    e = .returned (iv (putV x a u V).2) ∧ TB W0 S t (putV x a u V).1 w' ∧ ∀ s ∈ S, w'.heap[s]? = w.heap[s]? :=
  (put_any h.b hx hu).mono fun _ _ q => ⟨q.1, h.next q.2.1 q.2.2, fun s hs => q.2.2.block s (h.s s hs) (fun e => e.2 hs)⟩
theorem TB.get (h : TB W0 S t V w) (hx : x.length = 32) : Calls Try.prog 17 #[.pointer (some ⟨t, 0, none⟩), nmV x, iv now] w fun e w' =>
    ∃ v, e = .returned v ∧ Owns w' w.heap.size Tin v ((getV x now V).map iv) ∧ TB W0 S t V w' ∧ Below w.heap.size w w' :=
  (get_any h.b hx).mono fun _ _ ⟨v, q1, q2, q3⟩ => ⟨v, q1, q2, h.on q3, q3⟩
theorem TB.names (h : TB W0 S t V w) : Calls Try.prog 19 #[.pointer (some ⟨t, 0, none⟩)] w fun e w' =>
    ∃ v, e = .returned v ∧ Rw w' w.heap.size TI 32 v (V.map fun p => p.1.map byteV) ∧ TB W0 S t V w' ∧ Below w.heap.size w w' :=
  (names_any h.b).mono fun _ _ ⟨v, q1, q2, q3⟩ => ⟨v, q1, q2, h.on q3, q3⟩
theorem TB.expire (h : TB W0 S t V w) : Calls Try.prog 15 #[.pointer (some ⟨t, 0, none⟩), iv now] w fun e w' =>
    e = .returned (.tuple #[]) ∧ TB W0 S t (expireV now V) w' ∧ ∀ s ∈ S, w'.heap[s]? = w.heap[s]? :=
  (expire_any h.b).mono fun _ _ q => ⟨q.1, h.next (q.2.1.mono fun _ _ hF => .inl hF) q.2.2, fun s hs => q.2.2.block s (h.s s hs) (fun e => e.2 hs)⟩
theorem TB.drop (h : TB W0 S t V w) {v : Value} {xs : List Int} (hx : x.length = 32) (hz : ZsP w v xs) (hr : ∀ a ∈ xs, In64 a) (hxl : xs.length ≤ 1000000) : Calls Try.prog 13 #[.pointer (some ⟨t, 0, none⟩), nmV x, v] w fun e w' =>
    e = .returned (.tuple #[]) ∧ TB W0 S t (dropV x xs V) w' ∧ ∀ s ∈ S, w'.heap[s]? = w.heap[s]? :=
  (drop_any h.b hx hz hr hxl).mono fun _ _ q => ⟨q.1, h.next (q.2.1.mono fun _ _ hF => .inl hF) q.2.2, fun s hs => q.2.2.block s (h.s s hs) (fun e => e.2 hs)⟩
end
/-- The name whose bytes are zero. -/
def zN : List UInt8 := List.replicate 32 0
theorem put_first (x : List UInt8) (a u : Int) (h : 0 ≤ a ∧ a < 64) : putV x a u [] = ([(x, [(a, max 0 u)])], 0) := by
  unfold putV
  rw [if_neg (by omega)]
  rfl
theorem get_only (x : List UInt8) (a u now : Int) : getV x now [(x, [(a, u)])] = if now < u then [a] else [] := by
  unfold getV
  rw [getK_cons, if_pos rfl]
  simp only [Option.map_some, Option.getD_some, getA]
  by_cases h : now < u <;> simp [h]
set_option maxHeartbeats 1000000 in
set_option maxRecDepth 100000 in
theorem awake21_any (W : World) : Calls Try.prog 7 #[] W fun e w' => e = .returned (.bool true) ∧ Below W.heap.size W w' := by
  have hmk := TB.make (Below.refl W.heap.size W)
  have HPUT := Lib.hid (fun t w (h : TB W [] t [] w) => show Calls Try.prog 10 #[.pointer (some ⟨t, 0, none⟩), .agg zs32, iv 3, iv 10] w fun e w' => e = .returned (iv 0) ∧ TB W [] t [(zN, [(3, 10)])] w' from by
    have := h.put (x := zN) (a := 3) (u := 10) rfl (in64_of (by omega))
    rw [put_first zN 3 10 (by omega)] at this
    exact this.mono fun e w' q => ⟨q.1, q.2.1⟩)
  have HG1 := Lib.hid (fun t w (h : TB W [] t [(zN, [(3, 10)])] w) => show Calls Try.prog 17 #[.pointer (some ⟨t, 0, none⟩), .agg zs32, iv 9] w fun e w' => ∃ v, e = .returned v ∧ Owns w' w.heap.size Tin v [iv 3] ∧ TB W [] t [(zN, [(3, 10)])] w' ∧ Below w.heap.size w w' from by
    have := h.get (x := zN) (now := 9) rfl
    rw [get_only, if_pos (by omega)] at this
    exact this)
  have HG2 := Lib.hid (fun t w (h : TB W [] t [(zN, [(3, 10)])] w) => show Calls Try.prog 17 #[.pointer (some ⟨t, 0, none⟩), .agg zs32, iv 10] w fun e w' => ∃ v, e = .returned v ∧ Owns w' w.heap.size Tin v [] ∧ TB W [] t [(zN, [(3, 10)])] w' ∧ Below w.heap.size w w' from by
    have := h.get (x := zN) (now := 10) rfl
    rw [get_only, if_neg (by omega)] at this
    exact this)
  have HMK := Lib.hid hmk
  clear hmk
  go_enter Try.func7, Try.ntmps7
  go_wp2_with fail
  refine HMK.out.mono ?_
  rintro e w1 ⟨rfl, h1⟩
  obtain ⟨t, ht⟩ : ∃ t, t = W.heap.size + 1 := ⟨_, rfl⟩
  rw [← ht] at h1 ⊢
  have H1 := Lib.hid h1
  clear h1 ht
  go_wp2_with fail
  refine (HPUT.out t w1 H1.out).mono ?_
  rintro e w2 ⟨rfl, h2⟩
  have H2 := Lib.hid h2
  clear h2
  go_wp2_with fail
  refine (HG1.out t w2 H2.out).mono ?_
  rintro e w3 ⟨v3, rfl, ho3, h3, hb3⟩
  have H3 := Lib.hid h3
  have HO3 := Lib.hid ho3
  clear h3 ho3 hb3
  go_wp2_with fail
  refine (HG2.out t w3 H3.out).mono ?_
  rintro e w4 ⟨v4, rfl, ho4, h4, hb4⟩
  have H4 := Lib.hid h4
  have ho3 := HO3.out.below hb4
  obtain ⟨a3, c3, rfl, -, -, hc3⟩ := ho3.form
  obtain ⟨a4, c4, rfl, -, -, -⟩ := ho4.form
  obtain ⟨g3, rfl, -, hcell⟩ := hc3 0 (by simp)
  simp only [List.getElem?_cons_zero] at hcell
  clear h4 ho4 ho3 hc3 hb4
  have HN := Lib.hid (TB.names H4.out)
  go_wp2_with fail
  refine HN.out.mono ?_
  rintro e w5 ⟨v5, rfl, hr5, h5, hb5⟩
  obtain ⟨a5, c5, rfl⟩ := hr5.len
  have H5 := Lib.hid h5.below
  clear hr5 h5 hb5
  go_wp2_with fail
  go_ret
  exact ⟨rfl, H5.out⟩
end Go.Proofs.Ytilmidddhkofaaa
