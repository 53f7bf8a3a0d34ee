/-
  Mesh: New.
-/
import Derived.Test.YtbkknhlagohhhaaMsm7
import Derived.Test.YtbkknhlagohhhaaMm
namespace Go.Proofs.Ytbkknhlagohhhaa
open Go.RowKit Crv

abbrev nilS : Value := .slice none 0 0
theorem make_boxes (n : Nat) (hn : n ≤ 64) (w : World) : (Instr.makeSlice 102 (.int .i64 (n : Int)) (.int .i64 (n : Int))).run Try.prog w = .ok (.slice (some ⟨w.heap.size, 0, none⟩) n n) (w.alloc (.cells (madeCells #[nilS, .int .i64 0] (n * 2)) Tbx)) := by
  obtain ⟨i, hi, hz, hs, hb⟩ : ∃ i, Try.prog.info? Tbx = some i ∧ i.zero = some (.agg #[nilS, .int .i64 0]) ∧ i.size = 2 ∧ i.bytes = 32 := info_of (by kernel_rfl)
  have hr := run_make (P := Try.prog) w 102 Tbx i (.agg #[nilS, .int .i64 0]) Try.underlying102 hi hz .i64 .i64 n n (by omega) (by omega) (by rw [hb]; omega) (by omega)
  simp only [Int.toNat_natCast, hs] at hr
  exact hr
theorem make_qs (n : Nat) (hn : n ≤ 64) (w : World) : (Instr.makeSlice 105 (.int .i64 (n : Int)) (.int .i64 (n : Int))).run Try.prog w = .ok (.slice (some ⟨w.heap.size, 0, none⟩) n n) (w.alloc (.cells (madeCells #[nilS] n) Tss)) := by
  obtain ⟨i, hi, hz, hs, hb⟩ : ∃ i, Try.prog.info? Tss = some i ∧ i.zero = some nilS ∧ i.size = 1 ∧ i.bytes = 24 := info_of (by kernel_rfl)
  have hr := run_make (P := Try.prog) w 105 Tss i nilS Try.underlying105 hi hz .i64 .i64 n n (by omega) (by omega) (by rw [hb]; omega) (by omega)
  simp only [Int.toNat_natCast, hs, Nat.mul_one] at hr
  exact hr
/-- What New has laid when k boxes are laid. -/
structure NewK (W wr : World) (n k : Nat) : Prop where
  below : Below W.heap.size W wr
  size : wr.heap.size = W.heap.size + 2 + k
  mem : Mem wr (W.heap.size + 1) Tms [.slice (some ⟨W.heap.size, 0, none⟩) n n, .int .i64 0]
  tag : Tag wr W.heap.size Tbx
  done1 : ∀ t, t < k → wr.cell? ⟨W.heap.size, t * 2, none⟩ = some (.slice (some ⟨W.heap.size + 2 + t, 0, none⟩) n n)
  done2 : ∀ t, t < k → wr.cell? ⟨W.heap.size, t * 2 + 1, none⟩ = some (.int .i64 (-1))
  todo1 : ∀ t, k ≤ t → t < n → wr.cell? ⟨W.heap.size, t * 2, none⟩ = some nilS
  todo2 : ∀ t, k ≤ t → t < n → wr.cell? ⟨W.heap.size, t * 2 + 1, none⟩ = some (.int .i64 0)
  rows : ∀ t, t < k → Mem wr (W.heap.size + 2 + t) Tss (madeCells #[nilS] n).toList
theorem NewK.start (W : World) (n : Nat) : NewK W ((W.alloc (.cells (madeCells #[nilS, .int .i64 0] (n * 2)) Tbx)).alloc (.cells #[.slice (some ⟨W.heap.size, 0, none⟩) n n, .int .i64 0] Tms)) n 0 := by
  have h1 : Mem (W.alloc (.cells (madeCells #[nilS, .int .i64 0] (n * 2)) Tbx)) W.heap.size Tbx (madeCells #[nilS, .int .i64 0] (n * 2)).toList := by
    have := Mem.new W Tbx (madeCells #[nilS, .int .i64 0] (n * 2)).toList
    simpa using this
  have h1' := h1.alloc (.cells #[.slice (some ⟨W.heap.size, 0, none⟩) n n, .int .i64 0] Tms)
  have hsz : (W.alloc (.cells (madeCells #[nilS, .int .i64 0] (n * 2)) Tbx)).heap.size = W.heap.size + 1 := by simp
  refine ⟨((Below.refl _ _).alloc (Nat.le_refl _) _).alloc (by omega) _, by simp, ?_, Tag.mem h1', fun t ht => by omega, fun t ht => by omega, fun t _ ht => ?_, fun t _ ht => ?_, fun t ht => by omega⟩
  · exact Mem.newAt _ Tms [.slice (some ⟨W.heap.size, 0, none⟩) n n, .int .i64 0] hsz.symm
  · rw [h1'.cell, Array.getElem?_toList]
    simp [madeCells, show t * 2 < n * 2 by omega]
  · rw [h1'.cell, Array.getElem?_toList]
    simp [madeCells, show t * 2 + 1 < n * 2 by omega, Nat.add_mod]
theorem NewK.drew {W wr : World} {n k : Nat} (h : NewK W wr n k) : NewK W wr.drew n k := ⟨h.below.drew, h.size, h.mem, h.tag, h.done1, h.done2, h.todo1, h.todo2, h.rows⟩
theorem NewK.step {W wr : World} {n k : Nat} (h : NewK W wr n k) (hk : k < n) : NewK W (((wr.alloc (.cells (madeCells #[nilS] n) Tss)).setCell ⟨W.heap.size, k * 2, none⟩ (.slice (some ⟨wr.heap.size, 0, none⟩) n n)).setCell ⟨W.heap.size, k * 2 + 1, none⟩ (.int .i64 (-1))) n (k + 1) := by
  have hB := belowSelf wr (.cells (madeCells #[nilS] n) Tss)
  have hsz := h.size
  have c : ∀ i v, wr.cell? ⟨W.heap.size, i, none⟩ = some v → (wr.alloc (.cells (madeCells #[nilS] n) Tss)).cell? ⟨W.heap.size, i, none⟩ = some v := fun i v hv => (hB.cell (p := ⟨W.heap.size, i, none⟩) (by simp only; omega)).trans hv
  have far : ∀ g i v u i', g ≠ W.heap.size ∨ i ≠ i' → ∀ X : World, X.cell? ⟨g, i, none⟩ = some v → (X.setCell ⟨W.heap.size, i', none⟩ u).cell? ⟨g, i, none⟩ = some v := fun g i v u i' hne X hX => cell_set_other hX (fun e => by rcases hne with h | h; exact h e.1; exact h e.2)
  refine ⟨?_, ?_, ?_, ((h.tag.of (hB.block _ (by omega))).set _ _ _).set _ _ _, fun t ht => ?_, fun t ht => ?_, fun t h1 h2 => ?_, fun t h1 h2 => ?_, fun t ht => ?_⟩
  · refine (h.below.trans (hB.mono (by omega))).trans ⟨rfl, rfl, rfl, by simp [World.setCell], fun i hi => ?_⟩
    exact (Below.heap_setCell _ _ _ _ (by simp only; omega)).trans (Below.heap_setCell _ _ _ _ (by simp only; omega))
  · simp [World.setCell, hsz]; omega
  · exact ((h.mem.alloc _).other (by simp only; omega) _).other (by simp only; omega) _
  · by_cases e : t = k
    · subst e
      rw [show wr.heap.size = W.heap.size + 2 + t from hsz]
      exact far _ _ _ _ _ (.inr (by omega)) _ (cell_set_same (c _ _ (h.todo1 t (Nat.le_refl _) hk)))
    · exact far _ _ _ _ _ (.inr (by omega)) _ (far _ _ _ _ _ (.inr (by omega)) _ (c _ _ (h.done1 t (by omega))))
  · by_cases e : t = k
    · subst e
      exact cell_set_same (far _ _ _ _ _ (.inr (by omega)) _ (c _ _ (h.todo2 t (Nat.le_refl _) hk)))
    · exact far _ _ _ _ _ (.inr (by omega)) _ (far _ _ _ _ _ (.inr (by omega)) _ (c _ _ (h.done2 t (by omega))))
  · exact far _ _ _ _ _ (.inr (by omega)) _ (far _ _ _ _ _ (.inr (by omega)) _ (c _ _ (h.todo1 t (by omega) h2)))
  · exact far _ _ _ _ _ (.inr (by omega)) _ (far _ _ _ _ _ (.inr (by omega)) _ (c _ _ (h.todo2 t (by omega) h2)))
  · have hm : Mem (wr.alloc (.cells (madeCells #[nilS] n) Tss)) (W.heap.size + 2 + t) Tss (madeCells #[nilS] n).toList := by
      by_cases e : t = k
      · subst e
        have := Mem.newAt wr Tss (madeCells #[nilS] n).toList hsz.symm
        simpa using this
      · exact (h.rows t (by omega)).alloc _
    exact (hm.other (by simp only; omega) _).other (by simp only; omega) _
theorem NewK.done {W wr : World} {n : Nat} (h : NewK W wr n n) (hn : n ≤ 64) : Mx wr (fun b => W.heap.size ≤ b) (W.heap.size + 1) (newM n) := by
  refine ⟨W.heap.size, fun t => W.heap.size + 2 + t, fun _ _ => nilS, ⟨Tag.mem h.mem, h.tag, fun t ht => Tag.mem (h.rows t ht), h.mem.cell 0, h.mem.cell 1, h.done1, h.done2, fun t f ht hf => ?_, fun t f _ _ => Owns.nil _ _ _, fun t t' _ _ (e : W.heap.size + 2 + t = W.heap.size + 2 + t') => (by omega), fun t f t' f' b _ _ _ _ hb => (by cases hb), hn, fun _ _ => by simp [newM], fun _ _ => Nat.zero_le _⟩, fun b hb => ?_⟩
  · rw [(h.rows t ht).cell, Array.getElem?_toList]
    have hf2 : f < n := hf
    simp [madeCells, hf2, Nat.mod_one]
  · rcases hb with rfl | rfl | ⟨t, _, rfl⟩ | ⟨t, f, _, _, hb⟩
    · exact Nat.le_succ _
    · exact Nat.le_refl _
    · show W.heap.size ≤ W.heap.size + 2 + t
      omega
    · cases hb
set_option maxHeartbeats 2000000 in
set_option maxRecDepth 100000 in
theorem mnew_any (a : Int) (n : Nat) (ha : min (max a 0) 64 = (n : Int)) (W : World) : Calls Try.prog 29 #[.int .i64 a] W fun e w' =>
    e = .returned (.pointer (some ⟨W.heap.size + 1, 0, none⟩)) ∧ Mx w' (fun b => W.heap.size ≤ b) (W.heap.size + 1) (newM n) ∧ Below W.heap.size W w' ∧ w'.heap.size = W.heap.size + 2 + n := by
  have hn : n ≤ 64 := by omega
  have HSZ := Lib.hid ha
  have hmk := fun w => make_boxes n hn w
  have hmq := fun w => make_qs n hn w
  have HST := Lib.hid (NewK.start W n)
  clear ha
  go_enter Try.func29, Try.ntmps29
  go_wp2_with (first
    | (refine wp_max0 (c := a) (d := 0) (.tmp 5) (.const (.int .i64 0)) rfl rfl rfl rfl ?_)
    | (refine wp_min0 (c := max a 0) (d := 64) (.tmp 6) (.const (.int .i64 64)) HSZ.out rfl rfl rfl rfl ?_)
    | fail)
  go_loopw [17] (fun i wr => ∃ k : Nat, k ≤ n ∧ i = .int .i64 k ∧ Hid (NewK W wr n k)) (fun i _ => n - (intOf i).toNat)
  case atStart => exact ⟨0, by omega, rfl, HST⟩
  case round =>
    obtain ⟨k, hk, rfl, HN⟩ := hrel
    clear HST
    by_cases hlt : k < n
    · have hd : decide ((k : Int) < (n : Int)) = true := by simp; omega
      have hkn : (k : Int) < (n : Int) := by omega
      have c0 := HN.out.mem.cell 0
      have c1 := HN.out.todo1 k (Nat.le_refl _) hlt
      have c2 := HN.out.todo2 k (Nat.le_refl _) hlt
      have z1 := HN.out.tag.frozen (k * 2)
      have z2 := HN.out.tag.frozen (k * 2 + 1)
      have hsz := HN.out.size
      have hX := belowSelf wr (.cells (madeCells #[nilS] n) Tss)
      have d0 := (hX.cell (p := ⟨W.heap.size + 1, 0, none⟩) (by simp only; omega)).trans c0
      have d1 := (hX.cell (p := ⟨W.heap.size, k * 2, none⟩) (by simp only; omega)).trans c1
      have d2 := (hX.cell (p := ⟨W.heap.size, k * 2 + 1, none⟩) (by simp only; omega)).trans c2
      have y1 := (HN.out.tag.of (hX.block _ (by omega))).frozen (k * 2)
      have y2 := (HN.out.tag.of (hX.block _ (by omega))).frozen (k * 2 + 1)
      clear hsz hX
      have HS := Lib.hid (HN.out.step hlt).drew
      go_wp2_with fail
      go_region
      rename_i K hK
      refine hK _ _ ?_
      clear d0 d1 d2 y1 y2 c0 c1 c2 z1 z2
      go_wp2_with fail
      refine ⟨⟨k + 1, by omega, by go_num, HS⟩, ?_⟩
      simp [intOf]; omega
    · have e : k = n := by omega
      subst e
      have hd : decide ((k : Int) < (k : Int)) = false := by simp
      go_wp2_with fail
      go_ret
      exact ⟨rfl, HN.out.done hn, HN.out.below, HN.out.size⟩
end Go.Proofs.Ytbkknhlagohhhaa
