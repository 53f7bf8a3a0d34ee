/-
  strings.Builder: WriteString.
-/
import Derived.Test.YtjdhcanblpifcaaDoorSb
import Derived.Test.YtjdhcanblpifcaaDoorRow
import Derived.Shelf.Strings.Builder1
import Derived.Lib.AppendStr
namespace Go.Proofs.YtjdhcanblpifcaaDoor
open Go.RowKit Crv

abbrev Tsb : TypeId := 93
theorem info_sb : ∃ j, Tryd.prog.info? Tsb = some j ∧ j.size = 2 := by
  have h : (Tryd.prog.info? Tsb).map (·.size) = some 2 := by kernel_rfl
  exact Option.map_eq_some_iff.1 h
set_option maxRecDepth 100000 in
theorem copyUsed (b : Nat) (w : World) (h0 : w.cell? ⟨b, 0, none⟩ = some (.pointer (some ⟨b, 0, none⟩))) :
    Calls Tryd.prog 64 #[.pointer (some ⟨b, 0, none⟩)] w fun e w' => e = .returned (.tuple #[]) ∧ w' = w := by
  obtain ⟨j, hj, _⟩ := info_sb
  go_enter Tryd.func64, Tryd.ntmps64
  go_wp2
  rw [Lib.run_neq_ptr_same w _ Tryd.underlying91 hj]
  go_wp2
  go_end0
  exact ⟨rfl, rfl⟩
set_option maxRecDepth 100000 in
theorem copyFresh (b : Nat) (w : World) (h0 : w.cell? ⟨b, 0, none⟩ = some (.pointer none)) (hsh : w.shape? b = some (Tsb, 2)) (hfz : w.frozen? ⟨b, 0, none⟩ = false) :
    Calls Tryd.prog 64 #[.pointer (some ⟨b, 0, none⟩)] w fun e w' => e = .returned (.tuple #[]) ∧ w' = w.setCell ⟨b, 0, none⟩ (.pointer (some ⟨b, 0, none⟩)) := by
  obtain ⟨j, hj, hjs⟩ := info_sb
  go_enter Tryd.func64, Tryd.ntmps64
  go_wp2
  rw [Lib.run_to_unsafe w ⟨b, 0, none⟩ Tryd.underlying91 Tryd.underlying159 hj (by rw [hjs]; decide) hsh (Nat.zero_lt_succ 1)]
  simp only [Result.andThen]
  rw [Oper.upon_value]
  go_wp2
  rw [run_callFunc_extern Tryd.func76 (by kernel_rfl) (by kernel_rfl) (by kernel_rfl) (e := Extern.AbiNoEscape.same) (by kernel_rfl)]
  rw [Lib.run_noEscape]
  simp only [Result.andThen]
  rw [Oper.upon_value]
  go_wp2
  rw [Lib.run_from_unsafe w ⟨b, 0, none⟩ Tryd.underlying159 Tryd.underlying91 hj hsh (by kernel_rfl)]
  simp only [Result.andThen]
  rw [Oper.upon_value]
  go_wp2
  go_end0
  exact ⟨rfl, rfl⟩
/-- What a builder's calls leave alone: blocks of other types than its own. -/
def Kb (A B : World) : Prop := ∀ (g : Nat) (cs : Array Value) (t : TypeId) (fr : Nat × Nat), t ≠ Tsb → t ≠ 5 → A.heap[g]? = some (Obj.cells cs t fr) → B.heap[g]? = some (Obj.cells cs t fr)
theorem Kb.refl (A : World) : Kb A A := fun _ _ _ _ _ _ h => h
theorem Kb.trans {A B C : World} (h : Kb A B) (h' : Kb B C) : Kb A C := fun g cs t fr h1 h2 hg => h' g cs t fr h1 h2 (h g cs t fr h1 h2 hg)
theorem Kb.grown {A B : World} {row : Option Nat} (hg : A.grownBy B row) (hr : ∀ g, row = some g → ∃ cs t fr, A.heap[g]? = some (Obj.cells cs t fr) ∧ (t = Tsb ∨ t = 5)) : Kb A B := fun b cs t fr h1 h2 hb =>
  (hg.block b (Array.getElem?_eq_some_iff.1 hb).1 (fun e => by
    obtain ⟨cs', t', fr', h3, h4⟩ := hr b e.symm
    rw [hb] at h3
    cases h3
    rcases h4 with h | h
    · exact h1 h
    · exact h2 h)).trans hb
theorem Kb.of_below {A B : World} (h : Below A.heap.size A B) : Kb A B := fun g _ _ _ _ _ hg => (h.block g (Array.getElem?_eq_some_iff.1 hg).1).trans hg
theorem Kb.mem {A B : World} {g : Nat} {t : TypeId} {cs : List Value} (h : Kb A B) (hm : Mem A g t cs) (h1 : t ≠ Tsb) (h2 : t ≠ 5) : Mem B g t cs := h g _ t _ h1 h2 hm
theorem grownCell (w : World) (g i : Nat) (u : Value) : w.grownBy (w.setCell ⟨g, i, none⟩ u) (some g) := grown_cell (grownRefl w (some g)) i u
/-- A builder in memory. -/
def Sbm (B b : Nat) (l : List UInt8) (w : World) : Prop := Lib.IsBuilder Tsb 5 B b (l.map byteV) w
theorem Sbm.new (w : World) : Sbm w.heap.size w.heap.size [] (w.alloc (.cells #[.pointer none, .slice none 0 0] Tsb)) := Lib.fresh_isBuilder _ _ w
theorem copyAny (B b : Nat) (l : List UInt8) (w : World) (h : Sbm B b l w) :
    Calls Tryd.prog 64 #[.pointer (some ⟨b, 0, none⟩)] w fun e w' => e = .returned (.tuple #[]) ∧ (Lib.BuilderAt Tsb 5 B b (.pointer (some ⟨b, 0, none⟩)) (l.map byteV) w' ∧ Below B w w' ∧ Kb w w') := by
  rcases h with h | h
  · refine (copyFresh b w h.cell0 h.shape ?_).mono ?_
    · obtain ⟨_, v, hb, _⟩ := h
      exact Lib.frozen_of_heap hb 0
    · rintro e w' ⟨rfl, rfl⟩
      obtain ⟨hB, v, hb, hr⟩ := h
      exact ⟨rfl, Lib.BuilderAt.used ⟨hB, v, hb, hr⟩ _, (Below.refl _ _).setCell hB _, Kb.grown (grownCell _ _ _ _) (fun g hg => by cases hg; exact ⟨_, _, _, hb, .inl rfl⟩)⟩
  · refine (copyUsed b w h.cell0).mono ?_
    rintro e w' ⟨rfl, rfl⟩
    exact ⟨rfl, h, Below.refl _ _, Kb.refl _⟩
set_option maxRecDepth 100000 in
set_option maxHeartbeats 1000000 in
theorem sbWrite (B b : Nat) (l x : List UInt8) (w : World) (h : Sbm B b l w) (hlen : l.length + x.length ≤ 100000000000) (hBw : B ≤ w.heap.size) :
    Calls Tryd.prog 39 #[.pointer (some ⟨b, 0, none⟩), .string (str x)] w fun e w' => e = .returned (.tuple #[.int .i64 (x.length : Int), .nilIface]) ∧ Sbm B b (l ++ x) w' ∧ Below B w w' ∧ Kb w w' := by
  obtain ⟨i0, hi, hz, hsz, hby⟩ : ∃ i, Tryd.prog.info? 5 = some i ∧ i.zero = some (.int .u8 0) ∧ i.size = 1 ∧ i.bytes = 1 := info_of (by kernel_rfl)
  have HC := Lib.hid (copyAny B b l w h)
  clear h
  go_enter Tryd.func39, Tryd.ntmps39
  go_wp2_with fail
  refine HC.out.mono ?_
  rintro e w1 ⟨rfl, h1, hb1, hk1⟩
  have HK1 := Lib.hid hk1
  clear hk1
  obtain ⟨hB, v, hbk, hown, hne⟩ := h1
  have c0 : w1.cell? ⟨b, 0, none⟩ = some (.pointer (some ⟨b, 0, none⟩)) := by rw [Lib.cell_of_heap hbk]; rfl
  have c1 : w1.cell? ⟨b, 1, none⟩ = some v := by rw [Lib.cell_of_heap hbk]; rfl
  have HOWN := Lib.hid hown
  have HBK := Lib.hid hbk
  have HNE := Lib.hid hne
  have HB1 := Lib.hid hb1
  clear hown hbk hne HC
  go_wp2_with (at_builtin; refine Lib.wpList_append_own_string _ rfl _ _ 59 9 rfl B 5 i0 Tryd.underlying59 Tryd.underlying9 hi hz hsz hby _ _ _ rfl HOWN.out (str x) rfl ?c3 ?c4 ?c5 ?_)
  case c3 => simp only [size_str, List.length_map, maxLen]; omega
  case c4 => simp only [size_str, List.length_map]; omega
  case c5 => have := HB1.out.size; omega
  intro v' w2 hown' hgrow _
  have hlt : b < w1.heap.size := (Array.getElem?_eq_some_iff.1 HBK.out).1
  have hb2 : w2.heap[b]? = some (.cells #[.pointer (some ⟨b, 0, none⟩), v] Tsb (0, 0)) := by
    rw [hgrow.block b hlt (fun e => HNE.out e.symm)]
    exact HBK.out
  have d0 : w2.cell? ⟨b, 0, none⟩ = some (.pointer (some ⟨b, 0, none⟩)) := by rw [Lib.cell_of_heap hb2]; rfl
  have d1 : w2.cell? ⟨b, 1, none⟩ = some v := by rw [Lib.cell_of_heap hb2]; rfl
  have f1 : w2.frozen? ⟨b, 1, none⟩ = false := Lib.frozen_of_heap hb2 1
  obtain ⟨ao, n', cap, rfl⟩ : ∃ ao n' cap, v' = .slice ao n' cap := by
    rcases hown'.2 with ⟨hv, _⟩ | ⟨g, cap, cur, hv, _⟩
    · exact ⟨_, _, _, hv⟩
    · exact ⟨_, _, _, hv⟩
  have HO2 := Lib.hid hown'
  have HG2 := Lib.hid hgrow
  have HH2 := Lib.hid hb2
  clear hown' hgrow hb2
  go_wp2
  go_ret2
  refine ⟨rfl, .inr ?_, ?_, ?_⟩
  · refine Lib.BuilderAt.put (T := Tsb) (e := 5) hB HH2.out (bs' := (l ++ x).map byteV) ?_ (by decide)
    have := HO2.out
    have e : Lib.strCells (str x) = x.map byteV := rfl
    rw [e] at this
    rw [List.map_append]
    simpa [size_str] using this
  · exact (HB1.out.grown HG2.out (by have := HB1.out.size; omega) (fun k hk => (HOWN.out.lt k hk).1)).setCell (p := ⟨b, 1, none⟩) hB _
  · refine HK1.out.trans (Kb.trans (Kb.grown HG2.out (fun g hg => ?_)) (Kb.grown (grownCell _ b 1 _) (fun g hg => by cases hg; exact ⟨_, _, _, HH2.out, .inl rfl⟩)))
    rcases HOWN.out.2 with ⟨rfl, _⟩ | ⟨g', cap', cur, rfl, _, hgb, _⟩
    · simp [Value.ownBlock] at hg
    · obtain rfl : g' = g := by simpa [Value.ownBlock] using hg
      exact ⟨_, _, _, hgb, .inr rfl⟩
theorem sbText (B b : Nat) (l : List UInt8) (w : World) (h : Sbm B b l w) (hBw : B ≤ w.heap.size) :
    Calls Tryd.prog 41 #[.pointer (some ⟨b, 0, none⟩)] w fun e w' => e = .returned (.string (str l)) ∧ Below B w w' := Tryd.sbString B b l w h hBw
theorem Sbm.below {B b : Nat} {l : List UInt8} {w w' : World} (h : Sbm B b l w) (hb : Below w.heap.size w w') : Sbm B b l w' := by
  have key : ∀ p, Lib.BuilderAt Tsb 5 B b p (l.map byteV) w → Lib.BuilderAt Tsb 5 B b p (l.map byteV) w' := by
    rintro p ⟨h1, v, h2, h3, h4⟩
    refine ⟨h1, v, (hb.block b (Array.getElem?_eq_some_iff.1 h2).1).trans h2, ?_, h4⟩
    have ho : Owns w B 5 v (l.map byteV) := h3
    exact ho.below hb
  exact h.elim (fun h => .inl (key _ h)) (fun h => .inr (key _ h))
end Go.Proofs.YtjdhcanblpifcaaDoor
