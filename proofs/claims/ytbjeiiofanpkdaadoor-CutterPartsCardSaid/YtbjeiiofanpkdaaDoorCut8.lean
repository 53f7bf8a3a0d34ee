/-
  Package cutter: Write, Waits, Close.
-/
import Derived.Test.YtbjeiiofanpkdaaDoorCut7
import Derived.Test.YtbjeiiofanpkdaaDoorCut6
import Derived.Lib.AppendStr
namespace Go.Proofs.YtbjeiiofanpkdaaDoor
open Go.RowKit Crv

/-- What a cutter's methods turn: bytes, rolls, cutters from B on. -/
def Mine (B : Nat) (A : World) (b : Nat) : Prop := B ≤ b ∧ ∃ cs t fr, A.heap[b]? = some (Obj.cells cs t fr) ∧ (t = 5 ∨ t = 92 ∨ t = 98)
structure Kt (B : Nat) (A C : World) : Prop where
  os : C.os = A.os
  tape : C.tape = A.tape
  output : C.output = A.output
  size : A.heap.size ≤ C.heap.size
  block : ∀ b, b < A.heap.size → ¬ Mine B A b → C.heap[b]? = A.heap[b]?
theorem Kt.refl (B : Nat) (A : World) : Kt B A A := ⟨rfl, rfl, rfl, Nat.le_refl _, fun _ _ _ => rfl⟩
theorem Kt.step {B : Nat} {w A C : World} {row : Option Nat} (h : Kt B w A) (hg : A.grownBy C row) (hr : ∀ g, row = some g → w.heap.size ≤ g ∨ Mine B A g) : Kt B w C := by
  refine ⟨hg.os.trans h.os, hg.tape.trans h.tape, hg.output.trans h.output, Nat.le_trans h.size hg.size, fun b hb hm => ?_⟩
  have e := h.block b hb hm
  refine (hg.block b (Nat.lt_of_lt_of_le hb h.size) (fun eb => ?_)).trans e
  rcases hr b eb.symm with h1 | h1
  · omega
  · exact hm ⟨h1.1, by obtain ⟨cs, t, fr, h2, h3⟩ := h1.2; exact ⟨cs, t, fr, by rw [← e]; exact h2, h3⟩⟩
theorem Kt.drew {B : Nat} {w A : World} (h : Kt B w A) : Kt B w A.drew := ⟨h.os, h.tape, h.output, h.size, h.block⟩
theorem Kt.below {B : Nat} {w A : World} (h : Kt B w A) (hB : B ≤ w.heap.size) : Below B w A := ⟨h.os, h.tape, h.output, h.size, fun b hb => h.block b (by omega) (fun hm => by have := hm.1; omega)⟩
theorem Kt.trans {B : Nat} {A C E : World} (h : Kt B A C) (h' : Kt B C E) : Kt B A E := ⟨h'.os.trans h.os, h'.tape.trans h.tape, h'.output.trans h.output, Nat.le_trans h.size h'.size, fun b hb hm => by
  have e := h.block b hb hm
  refine (h'.block b (Nat.lt_of_lt_of_le hb h.size) (fun h1 => hm ⟨h1.1, ?_⟩)).trans e
  obtain ⟨cs, t, fr, h2, h3⟩ := h1.2
  exact ⟨cs, t, fr, by rw [← e]; exact h2, h3⟩⟩
/-- A cutter that holds these bytes. -/
structure CutH (w : World) (B cb rb tb : Nat) (t : List Nat) (v n : Nat) (h : List UInt8) (hv : Value) : Prop where
  tab : Tb w tb t
  rol : Rl w rb tb v n
  cut : Cu w cb rb hv
  own : Owns w B 5 hv (h.map byteV)
  bc : B ≤ cb
  br : B ≤ rb
  bs : B ≤ w.heap.size
theorem CutH.drew {w : World} {B cb rb tb v n : Nat} {t : List Nat} {h : List UInt8} {hv : Value} (H : CutH w B cb rb tb t v n h hv) : CutH w.drew B cb rb tb t v n h hv := ⟨H.tab, H.rol, H.cut, H.own, H.bc, H.br, H.bs⟩
theorem own_row {w : World} {B : Nat} {e : TypeId} {v : Value} {xs : List Value} (h : Owns w B e v xs) : ∀ g, v.ownBlock = some g → B ≤ g ∧ ∃ cs, w.heap[g]? = some (Obj.cells cs e (0, 0)) := fun g hg => ⟨(h.lt g hg).2, row_tag h g hg⟩
/-- A step that turns none of these. -/
theorem CutH.apart {w w' : World} {B cb rb tb v n : Nat} {t : List Nat} {h : List UInt8} {hv : Value} {row : Option Nat} (H : CutH w B cb rb tb t v n h hv) (hg : w.grownBy w' row)
    (hr : ∀ g, row = some g → ∃ cs fr, w.heap[g]? = some (Obj.cells cs 9 fr)) : CutH w' B cb rb tb t v n h hv := by
  have key : ∀ b cs T fr, w.heap[b]? = some (Obj.cells cs T fr) → T ≠ 9 → w'.heap[b]? = w.heap[b]? := fun b cs T fr hb hT => hg.block b (Array.getElem?_eq_some_iff.1 hb).1 (fun e => by
    obtain ⟨cs', fr', h1⟩ := hr b e.symm
    rw [hb] at h1
    injection h1 with h1
    injection h1 with _ h1
    exact hT h1)
  refine ⟨⟨(key _ _ _ _ H.tab.1 (by decide)).trans H.tab.1, H.tab.2⟩, (key _ _ _ _ H.rol (by decide)).trans H.rol, (key _ _ _ _ H.cut (by decide)).trans H.cut, H.own.of_below (fun g hg' => ?_), H.bc, H.br, Nat.le_trans H.bs hg.size⟩
  obtain ⟨_, cs, hcs⟩ := own_row H.own g hg'
  exact key _ _ _ _ hcs (by decide)
/-- The roll turns. -/
theorem CutH.roll {w w' : World} {B cb rb tb v n v' n' : Nat} {t : List Nat} {h : List UInt8} {hv : Value} (H : CutH w B cb rb tb t v n h hv) (A : AdvW w cb rb tb hv t v' n' w') : CutH w' B cb rb tb t v' n' h hv := by
  refine ⟨A.1, A.2.1, A.2.2.1, H.own.of_below (fun g hg' => ?_), H.bc, H.br, Nat.le_trans H.bs A.2.2.2.size⟩
  obtain ⟨_, cs, hcs⟩ := own_row H.own g hg'
  refine A.2.2.2.block g (Array.getElem?_eq_some_iff.1 hcs).1 (fun e => ?_)
  injection e with e
  subst e
  have h1 := H.rol
  unfold Rl Mem at h1
  rw [hcs] at h1
  injection h1 with h1
  injection h1 with _ h1
  exact absurd h1 (by decide)
/-- The bytes that are held turn, then the cutter says where they lie. -/
theorem CutH.held {w w5 : World} {B cb rb tb v n : Nat} {t : List Nat} {h h2 : List UInt8} {hv hv2 : Value} (H : CutH w B cb rb tb t v n h hv) (hg : w.grownBy w5 hv.ownBlock) (ho : Owns w5 B 5 hv2 (h2.map byteV)) :
    CutH (w5.setCell ⟨cb, 1, none⟩ hv2) B cb rb tb t v n h2 hv2 ∧ Cu w5 cb rb hv := by
  have key : ∀ b cs T fr, w.heap[b]? = some (Obj.cells cs T fr) → T ≠ 5 → w5.heap[b]? = w.heap[b]? := fun b cs T fr hb hT => hg.block b (Array.getElem?_eq_some_iff.1 hb).1 (fun e => by
    obtain ⟨_, cs', h1⟩ := own_row H.own b e.symm
    rw [hb] at h1
    injection h1 with h1
    injection h1 with _ h1
    exact hT h1)
  have hc5 : Cu w5 cb rb hv := (key _ _ _ _ H.cut (by decide)).trans H.cut
  have ht5 : Tb w5 tb t := ⟨(key _ _ _ _ H.tab.1 (by decide)).trans H.tab.1, H.tab.2⟩
  have hr5 : Rl w5 rb tb v n := (key _ _ _ _ H.rol (by decide)).trans H.rol
  have hg5 := grown_cell (grownRefl w5 (some cb)) 1 hv2
  have hne : tb ≠ cb := fun e => by
    have h1 := ht5.1
    have h2 := hc5
    unfold Cu at h2
    unfold Mem at h1 h2
    rw [e] at h1
    rw [h1] at h2
    injection h2 with h2
    injection h2 with _ h2
    exact absurd h2 (by decide)
  refine ⟨⟨ht5.grown hg5 hne, Mem.grown hr5 hg5 (fun e => by injection e with e; exact (hc5.ne hr5) e.symm), Mem.set hc5 1 hv2, ho.of_below (fun g hg' => ?_), H.bc, H.br, Nat.le_trans H.bs (Nat.le_trans hg.size hg5.size)⟩, hc5⟩
  obtain ⟨_, cs, hcs⟩ := own_row ho g hg'
  refine hg5.block g (Array.getElem?_eq_some_iff.1 hcs).1 (fun e => ?_)
  injection e with e
  subst e
  have h1 := hc5
  unfold Cu Mem at h1
  rw [hcs] at h1
  injection h1 with h1
  injection h1 with _ h1
  exact absurd h1 (by decide)
/-- No bytes of a list of one's own. -/
theorem owns_cut0 {w : World} {B : Nat} {e : TypeId} {a : Option Addr} {n cap : Nat} {xs : List Value} (h : Owns w B e (.slice a n cap) xs) : Owns w B e (.slice a 0 cap) [] := by
  obtain ⟨_, h2⟩ := h
  refine ⟨rfl, ?_⟩
  rcases h2 with ⟨h3, _⟩ | ⟨g, cap', cur, h3, h4, h5, h6, h7, h8, _⟩
  · injection h3 with h3 _ h5
    exact .inl ⟨by rw [h3, h5], rfl⟩
  · injection h3 with h3 _ h9
    exact .inr ⟨g, cap', cur, by rw [h3, h9]; rfl, h4, h5, Nat.zero_le _, h7, h8, by simp⟩
theorem waits_any (B cb rb tb v n : Nat) (t : List Nat) (h : List UInt8) (hv : Value) (w : World) (H : CutH w B cb rb tb t v n h hv) :
    Calls Tryd.prog 46 #[pV cb] w fun e w' => e = .returned (.int .i64 h.length) ∧ w = w' := by
  obtain ⟨a, cap, hva, _⟩ := H.own.form
  rw [List.length_map] at hva
  have hc : w.cell? ⟨cb, 1, none⟩ = some hv := Mem.cell H.cut 1
  subst hva
  clear H
  go_enter Tryd.func46, Tryd.ntmps46
  go_wp2
  go_ret
  exact ⟨rfl, rfl⟩

set_option maxHeartbeats 1000000 in
set_option maxRecDepth 100000 in
theorem close_any (B cb rb tb v n : Nat) (t : List Nat) (h : List UInt8) (hv : Value) (w : World) (H : CutH w B cb rb tb t v n h hv) (hl : h.length ≤ 1000000) :
    Calls Tryd.prog 47 #[pV cb] w fun e w' => e = .returned (.tuple #[.string (str h), .bool (!h.isEmpty)]) ∧ CutH w' B cb rb tb t 0 0 [] (.slice none 0 0) ∧ Kt B w w' := by
  have hcv := H.own.string (P := Tryd.prog) (src := 26) (dst := 9) Tryd.underlying26 Tryd.underlying5 Tryd.underlying9
  have hc1 : w.cell? ⟨cb, 1, none⟩ = some hv := Mem.cell H.cut 1
  have hf1 := Mem.frozen H.cut 1
  obtain ⟨a, cap, hva, _⟩ := H.own.form
  rw [List.length_map] at hva
  have h1 := H.held (h2 := []) (hv2 := .slice none 0 0) (grownRefl w _) (Owns.nil w B 5)
  have HH := Lib.hid h1.1
  have HK := Lib.hid ((Kt.refl B w).step (grown_cell (grownRefl w (some cb)) 1 (.slice none 0 0)) (fun g hg => .inr (by cases hg; exact ⟨H.bc, _, _, _, H.cut, .inr (.inr rfl)⟩)))
  have hc0 : w.cell? ⟨cb, 0, none⟩ = some (pV rb) := Mem.cell H.cut 0
  have HR := Lib.hid (reset_any rb tb v n _ h1.1.rol)
  subst hva
  clear h1 H
  go_enter Tryd.func47, Tryd.ntmps47
  go_wp2_with fail
  refine HR.out.mono ?_
  rintro e w2 ⟨rfl, hr2, hg2⟩
  have hrN := HH.out.rol
  have A : AdvW _ cb rb tb (.slice none 0 0) t 0 0 w2 := ⟨HH.out.tab.grown hg2 (HH.out.tab.ne hrN), hr2, HH.out.cut.grown hg2 (HH.out.cut.ne hrN), hg2⟩
  have H2 := Lib.hid (HH.out.roll A)
  have K2 := Lib.hid (HK.out.step hg2 (fun g hg => .inr (by cases hg; exact ⟨HH.out.br, _, _, _, hrN, .inr (.inl rfl)⟩)))
  clear A hr2 hg2 hrN hcv hc0 hc1 hf1
  cases h with
  | nil =>
    go_wp2
    go_ret2
    exact ⟨rfl, H2.out, K2.out⟩
  | cons x r =>
    go_wp2
    go_ret2
    exact ⟨rfl, H2.out, K2.out⟩
end Go.Proofs.YtbjeiiofanpkdaaDoor
