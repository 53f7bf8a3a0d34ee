/-
  Package cutter: All, Cut; the law's first look.
-/
import Derived.Test.YtbjeiiofanpkdaaDoorCut4
import Derived.Maps.AppendAt
namespace Go.Proofs.YtbjeiiofanpkdaaDoor
open Go.RowKit Go.Shelf Crv
attribute [local go_sem] Oper.semAt_some

set_option maxHeartbeats 1000000 in
set_option maxRecDepth 100000 in
theorem cutAll_any (b : Nat) (t : List Nat) (s : List UInt8) (w : World) (ht : Tb w b t) :
    Calls Tryd.prog 41 #[pV b, tx s] w fun e w' => ∃ tb sb, e = .returned (.func (.func 65) #[] #[pV tb, pV sb]) ∧ Tb w' tb t ∧ Mem w' sb 9 [tx s] ∧ Below w.heap.size w w' := by
  obtain ⟨W0, hW0⟩ : ∃ W, W = w.alloc (.cells #[tx s] 9) := ⟨_, rfl⟩
  have HT0 := Lib.hid (show Tb W0 b t by rw [hW0]; exact ht.below (belowSelf w _))
  have HS0 := Lib.hid (show Mem W0 w.heap.size 9 [tx s] by rw [hW0]; exact Mem.new w _ _)
  have HB0 := Lib.hid (show Below w.heap.size w W0 by rw [hW0]; exact belowSelf w _)
  have SZ := Lib.hid (sz_tab ht.2.1)
  have HLT := Lib.hid (show (t.map nV).length = 256 by rw [List.length_map]; exact ht.2.1)
  have HZ := Lib.hid (show Mem (W0.alloc (.cells Tryd.zeroCells89 89)) W0.heap.size 89 (List.replicate 256 (nV 0)) by
    rw [zero_tab]
    exact Mem.new W0 _ _)
  have HB1 := Lib.hid (belowSelf W0 (.cells Tryd.zeroCells89 89))
  have HWW := Lib.hid hW0
  clear ht hW0
  go_enter Tryd.func41, Tryd.ntmps41
  go_wp2_with (first
    | (rw [← HWW.out]; refine wp_load_mem HT0.out.1 89 (.tmp 7) (.array 256 41) rfl rfl rfl Tryd.underlying89 rfl SZ.out ?_)
    | (refine wp_store_mem HZ.out (t.map nV) 89 (.tmp 5) (.tmp 8) rfl rfl rfl rfl SZ.out (by rw [HLT.out]; rfl) (one_nums t) ?_)
    | fail)
  go_ret
  have hb2 := below_row HB1.out (Nat.le_refl _) (t.map nV).toArray
  exact ⟨W0.heap.size, w.heap.size, rfl, ⟨HZ.out.setRow _, HT0.out.2⟩, HS0.out.below hb2 HS0.out.lt, belowThen HB0.out hb2⟩

theorem length_cuts (t : List Nat) : ∀ (s : List UInt8), (cuts t s).length ≤ s.length := by
  have key : ∀ n (s : List UInt8), s.length ≤ n → (cuts t s).length ≤ s.length := by
    intro n
    induction n with
    | zero => intro s h; have : s = [] := List.length_eq_zero_iff.1 (by omega); subst this; simp [cuts_nil]
    | succ n ih =>
      intro s h
      by_cases hs : s = []
      · subst hs; simp [cuts_nil]
      · have h1 := endOf_pos t hs
        have h2 := endOf_le t s
        rw [cuts_cons t hs, List.length_cons]
        have h3 := ih (s.drop (endOf t s)) (by rw [List.length_drop]; omega)
        rw [List.length_drop] at h3
        omega
  exact fun s => key s.length s (Nat.le_refl _)
theorem CutSt.keeps {N0 : Nat} {A B : World} (h : CutSt N0 A B) : KeepsFrom N0 A B := ⟨h.size, fun k o _ hk ho => (h.block k (Array.getElem?_eq_some_iff.1 hk).1 (.inr (by rintro ⟨cs, fr, hc⟩; rw [hk] at hc; cases hc; cases ho))).trans hk⟩
theorem CutKp.trans {A B C : World} (h : CutKp A B) (h' : CutKp B C) : CutKp A C := fun b cs t fr ht hb => h' b cs t fr ht (h b cs t fr ht hb)
theorem CutKp.put {W : World} {l : Nat} {o o' : Obj} (h1 : W.heap[l]? = some o) (h2 : o.isCells = false) : CutKp W (W.putObj l o') := fun b cs t fr _ hb => (World.putObj_heap_other (fun e => by subst e; rw [h1] at hb; cases hb; cases h2)).trans hb
theorem CutKp.grown {A B : World} {row : Option Nat} (hg : A.grownBy B row) (hr : ∀ g, row = some g → ∃ cs t fr, A.heap[g]? = some (Obj.cells cs t fr) ∧ t ≠ 89 ∧ t ≠ 92 ∧ t ≠ 98) : CutKp A B := fun b cs t fr ht hb =>
  (hg.block b (Array.getElem?_eq_some_iff.1 hb).1 (fun e => by
    obtain ⟨cs', t', fr', h1, h2, h3, h4⟩ := hr b e.symm
    rw [hb] at h1
    cases h1
    rcases ht with h | h | h
    · exact h2 h
    · exact h3 h
    · exact h4 h)).trans hb
/-- What the loop that collects keeps: its list. -/
def CutI (w0 : World) (bb : Nat) (pre : List (List UInt8)) (W : World) : Prop := (∃ v, Boxed W bb 53 v ∧ W.ownsRow w0.heap.size 9 1 v pre.length (pre.map tx) ∧ True) ∧ Below w0.heap.size w0 W
theorem cutI_own {w0 : World} {bb N0 : Nat} (h : w0.heap.size ≤ N0) : OwnFrom N0 (CutI w0 bb) :=
  OwnFrom.and (Own.from (holdsRow_own w0.heap.size bb 53 9 1 (fun pre : List (List UInt8) => pre.length) (fun pre => pre.map tx) (fun _ _ => True)) _) (ownFrom_below (Nat.le_refl _) h)
theorem row_tag {W : World} {base : Nat} {e : TypeId} {v : Value} {k : Nat} {xs : List Value} (h : W.ownsRow base e 1 v k xs) : ∀ g, v.ownBlock = some g → ∃ cs, W.heap[g]? = some (Obj.cells cs e (0, 0)) := fun g hg => by
  rcases h.2 with ⟨rfl, _⟩ | ⟨g', cap, cur, rfl, _, hgb, _⟩
  · simp [Value.ownBlock] at hg
  · obtain rfl : g' = g := by simpa [Value.ownBlock] using hg
    exact ⟨cur, hgb⟩
theorem cutI_st {w0 : World} {bb N0 : Nat} {pre : List (List UInt8)} {A B : World} (hi : CutI w0 bb pre A) (hs : CutSt N0 A B) (hb : bb < N0) (hw : w0.heap.size ≤ N0) : CutI w0 bb pre B := by
  obtain ⟨⟨v, hv, hrow, _⟩, hB⟩ := hi
  refine ⟨⟨v, (hs.block bb hv.lt (.inl hb)).trans hv, ?_, trivial⟩, hs.os.trans hB.os, hs.tape.trans hB.tape, hs.output.trans hB.output, Nat.le_trans hB.size hs.size, fun k hk => (hs.block k (Nat.lt_of_lt_of_le hk hB.size) (.inl (by omega))).trans (hB.block k hk)⟩
  have ho : Owns A w0.heap.size 9 v (pre.map tx) := by unfold Owns; rw [List.length_map]; exact hrow
  have key : Owns B w0.heap.size 9 v (pre.map tx) := Owns.of_below ho (fun g hg => ?_)
  · unfold Owns at key; rw [List.length_map] at key; exact key
  obtain ⟨cs, hcs⟩ := row_tag hrow g hg
  exact hs.block g (Array.getElem?_eq_some_iff.1 hcs).1 (.inr (by rintro ⟨cs', fr, hc⟩; rw [hcs] at hc; injection hc with hc; injection hc with _ hc; exact absurd hc (by decide)))
set_option maxHeartbeats 2000000 in
set_option maxRecDepth 100000 in
theorem cut_any (b : Nat) (t : List Nat) (s : List UInt8) (w : World) (ht : Tb w b t) (hs : s.length ≤ 1000000) :
    Calls Tryd.prog 43 #[pV b, tx s] w fun e w' => ∃ v, e = .returned v ∧ Owns w' w.heap.size 9 v ((cuts t s).map tx) ∧ Below w.heap.size w w' := by
  have bO := Boxed.new w 53 (.slice none 0 0)
  have HAL := Lib.hid (fun k => (callsIn_wide (n := k)).2 (cutAll_any b t s (w.alloc (.cells #[.slice none 0 0] 53)) (ht.below (belowSelf w _))))
  have HB0 := Lib.hid (belowSelf w (.cells #[.slice none 0 0] 53))
  have HLC := Lib.hid (length_cuts t s)
  obtain ⟨full, hfull⟩ : ∃ l, l = cuts t s := ⟨_, rfl⟩
  rw [← hfull] at HLC ⊢
  have HFU := Lib.hid hfull
  clear ht hfull
  refine (callsIn_wide (n := 3)).1 ?_
  refine callsIn_of_wp_marks Tryd.func43 rfl trivial ?_ rfl
  simp only [Tryd.ntmps43, List.size_toArray, List.length_cons, List.length_nil, Nat.reduceAdd, Nat.reduceSub, Array.replicate_succ, Array.replicate_zero, List.push_toArray, List.append_toArray, List.nil_append, List.cons_append]
  gi_wp2_with fail
  refine ⟨trivial, ?_⟩
  refine (HAL.out _).mono ?_
  rintro e w1 ⟨tb, sb, rfl, ht1, hs1, hb1⟩
  have HB1 := Lib.hid (belowThen HB0.out hb1)
  have bO1 : Boxed w1 w.heap.size 53 (.slice none 0 0) := (hb1.block _ bO.lt).trans bO
  have hz1 : w.heap.size < w1.heap.size := bO1.lt
  have HSQ := Lib.hid (all1_seq 2 tb sb t s w1 ht1 hs1 hs)
  rw [← HFU.out] at HSQ
  clear hb1 ht1 hs1 HAL HB0 bO
  gi_wp2_with fail
  refine range_by rfl (by omega) (gf := 65) (lb := #[pV tb, pV sb]) rfl trivial (enters_of Tryd.func65 (by kernel_rfl) rfl) HSQ.out
    (fun A B h => h.keeps) (fun A B C h h' => h.trans h') (fun W l o o' _ h1 h2 => CutKp.put h1 h2) (fun _ => rfl) (CutI w w.heap.size) (fun _ _ _ => False)
    (cutI_own (Nat.le_of_lt hz1)) (fun pre A B hi hst => cutI_st hi hst hz1 (Nat.le_of_lt hz1)) (fun _ _ _ _ _ hs _ _ => hs) ⟨⟨_, bO1, World.ownsRow_nil _ _ _ _, trivial⟩, HB1.out⟩
    (fun x => { tmps := #[pV b, tx s, undef, undef, .slice none 0 0, pV w.heap.size, tx x, pV b, tx s, .func (.func 65) #[] #[pV tb, pV sb], tx x, undef, undef, undef, undef, undef], defers := [] }) ?assign ?body ?done ?stop
  case assign =>
    intro l x W K hK
    gi_wp2
    exact hK
  case body =>
    rintro l pre x W ⟨⟨v, hv, hrow, -⟩, hB⟩ hpre
    obtain ⟨i0, hi, hz, hsz, hby⟩ := str_info
    have hc := hv.cell
    have hpl : pre.length + 1 ≤ 1000000 := by
      have h1 := hpre.length_le
      rw [List.length_append, List.length_singleton] at h1
      have h2 := HLC.out
      omega
    gi_wp2_with (gi_at_builtin; refine wpListIn_append_own _ rfl _ _ 53 rfl w.heap.size 9 i0 (.string ⟨#[]⟩) 1 16 Tryd.underlying53 hi hz hsz hby rfl (by decide) _ _ _ rfl (hrow.alloc _) ⟨W.heap.size, 0, none⟩ 1 1 [tx x] rfl rfl (cell_one_new _ _ _) (by simp [Value.oneCell']) (by simp only [maxLen]; omega) (by omega) (by have := hB.size; simp; omega) ?_; intro v' w2 hown' hgrow _; obtain ⟨g', cap', rfl⟩ := ownsRow_succ hown'; obtain ⟨hv1, hv2, hr2, hk2, hb2⟩ := hv.appended (by decide) hrow hB.size (Nat.le_refl _) hown' hgrow; have hc1 := hv1.cell; have hf1 := hv1.frozen)
    refine ⟨hk2.from _, ?_, ⟨⟨_, hv2, ?_, trivial⟩, hB.trans hb2⟩⟩
    · refine CutKp.trans (CutKp.grown (World.grownBy_alloc W _ none) (fun g h => by cases h)) (CutKp.trans (CutKp.grown hgrow (fun g hg => ?_)) (CutKp.grown (grownBy_setCell' _ _ _) (fun g hg => ?_)))
      · obtain ⟨cs, hcs⟩ := row_tag (hrow.alloc _) g hg
        exact ⟨cs, _, _, hcs, by decide, by decide, by decide⟩
      · cases hg
        exact ⟨_, _, _, hv1, by decide, by decide, by decide⟩
    · rw [List.map_append, List.length_append]
      exact hr2
  case done =>
    rintro D W hD ⟨⟨v, hv, hrow, -⟩, hB⟩ hK
    have hc := hv.cell
    gi_wp2
    refine ⟨by simp, .inl ⟨_, _, rfl, run_takeDeferred hK, ?_⟩⟩
    exact ⟨_, results_tmp rfl _ _ _, v, rfl, by unfold Owns; rw [List.length_map]; exact ownsRow_putObj hrow _ hK rfl, hB.trans (belowK_b (w := w) (Nat.le_refl _) W D _ _ (by omega) hK rfl rfl)⟩
  case stop =>
    rintro D c pre W _ _ h _
    exact h.elim
end Go.Proofs.YtbjeiiofanpkdaaDoor
