/-
  strings.CutPrefix of "cv"; letter.Bytes where the kind has nothing more.
-/
import Derived.Test.YtbkknhlagohhhaaLet5
namespace Go.Proofs.Ytbkknhlagohhhaa
open Go.RowKit Crv

abbrev cvT : List UInt8 := [99, 118]
set_option maxHeartbeats 1000000 in
theorem hasPre_any (l : List UInt8) (w : World) (hl : l.length ≤ 9223372036854775807) : Calls Try.prog 95 #[tx l, tx cvT] w fun e w' => e = .returned (.bool (l.take 2 == cvT)) ∧ w = w' := by
  by_cases h2 : 2 ≤ l.length
  · have hsl := fun W => slice_str_to (P := Try.prog) Try.underlying9 l .i64 2 (by omega) W
    have hge : (2 : Int) ≤ (l.length : Int) := by omega
    obtain ⟨t, ht⟩ : ∃ t, t = l.take 2 := ⟨_, rfl⟩
    rw [← ht] at hsl ⊢
    rw [show ((2 : Nat) : Int) = 2 from rfl] at hsl
    clear ht
    go_enter Try.func95, Try.ntmps95
    go_wp2_with fail
    go_ret
    exact ⟨rfl, rfl⟩
  · have hge : ¬ (2 : Int) ≤ (l.length : Int) := by omega
    have he : (l.take 2 == cvT) = false := by
      rw [beq_eq_false_iff_ne]
      intro e
      have := congrArg List.length e
      rw [List.length_take] at this
      simp at this
      omega
    rw [he]
    clear he
    go_enter Try.func95, Try.ntmps95
    go_wp2_with fail
    go_ret
    exact ⟨rfl, rfl⟩
/-- What is left behind "cv", and was it there? -/
def cutP (l : List UInt8) : List UInt8 × Bool := if l.take 2 == cvT then (l.drop 2, true) else (l, false)
set_option maxHeartbeats 1000000 in
theorem cutPre_any (l : List UInt8) (w : World) (hl : l.length ≤ 9223372036854775807) : Calls Try.prog 55 #[tx l, tx cvT] w fun e w' => e = .returned (.tuple #[tx (cutP l).1, .bool (cutP l).2]) ∧ w = w' := by
  have H1 : Hid (∀ w, Calls Try.prog 84 #[tx l, tx cvT] w fun e w' => e = .returned (.tuple #[tx (cutP l).1, .bool (cutP l).2]) ∧ w = w') := Lib.hid (fun w => by
    have HP := Lib.hid (hasPre_any l w hl)
    unfold cutP
    cases hc : l.take 2 == cvT
    · rw [hc] at HP
      clear hc
      simp only [Bool.false_eq_true, if_false]
      go_enter Try.func84, Try.ntmps84
      go_wp2_with fail
      refine HP.out.mono ?_
      rintro e w ⟨rfl, rfl⟩
      go_wp2_with fail
      go_ret2
      exact ⟨rfl, rfl⟩
    · rw [hc] at HP
      have h2 : 2 ≤ l.length := by
        have := congrArg List.length (eq_of_beq hc)
        rw [List.length_take] at this
        simp at this
        omega
      have hsl := fun W => slice_str_from (P := Try.prog) Try.underlying9 l .i64 2 (by omega) W
      rw [show ((2 : Nat) : Int) = 2 from rfl] at hsl
      obtain ⟨r, hr⟩ : ∃ r, r = l.drop 2 := ⟨_, rfl⟩
      rw [← hr] at hsl ⊢
      clear hc hr
      simp only [if_true]
      go_enter Try.func84, Try.ntmps84
      go_wp2_with fail
      refine HP.out.mono ?_
      rintro e w ⟨rfl, rfl⟩
      go_wp2_with fail
      go_ret2
      exact ⟨rfl, rfl⟩)
  go_enter Try.func55, Try.ntmps55
  go_wp2_with fail
  refine (H1.out _).mono ?_
  rintro e w ⟨rfl, rfl⟩
  go_wp2_with fail
  go_ret2
  exact ⟨rfl, rfl⟩
/-- The numbers of a letter that has nothing more. -/
def numsL (ks : List Int) : List UInt8 := ks.flatMap fun k => numOf (nat0 k)
theorem ints_new (W : World) (ks : List Int) : Ints (W.alloc (.cells (ks.map fun k => Value.int .i64 k).toArray Tii)) (.slice (some ⟨W.heap.size, 0, none⟩) ks.length ks.length) ks := by
  refine ⟨some ⟨W.heap.size, 0, none⟩, ks.length, by rw [List.length_map], fun i _ => ⟨W.heap.size, 0, rfl, ?_⟩⟩
  rw [Nat.zero_add]
  exact (Mem.new W Tii (ks.map fun k => Value.int .i64 k)).cell i
set_option maxHeartbeats 2000000 in
set_option maxRecDepth 100000 in
theorem bytes_plain (l : LV) (W : World) (hid : l.id.length = 32) (hi : idK l.kind = false) (hli : listK l.kind = false) (hwh : whatK l.kind = false) (hte : textK l.kind = false) (hr : ∀ k ∈ [l.kind, l.fr, l.to, l.seq], -9223372036854775808 ≤ k ∧ k < 9223372036854775808) :
    Calls Try.prog 18 #[.agg (ltC l).toArray] W fun e w' => e = .returned (tx (cvT ++ numsL [l.kind, l.fr, l.to, l.seq])) ∧ Below W.heap.size W w' := by
  have hM0 : Mem (W.alloc (.cells (ltC l).toArray Tlt)) W.heap.size Tlt (ltC l) := Mem.new W Tlt (ltC l)
  have hB0 := belowSelf W (.cells (ltC l).toArray Tlt)
  obtain ⟨⟨c0, c1, c2, c3⟩, -⟩ := lt_cells hM0 hid
  have hA := belowSelf (W.alloc (.cells (ltC l).toArray Tlt)) (.cells #[.int .i64 l.kind, .int .i64 l.fr, .int .i64 l.to, .int .i64 l.seq] 3)
  obtain ⟨N, hN⟩ : ∃ N, N = numsL [l.kind, l.fr, l.to, l.seq] := ⟨_, rfl⟩
  have hnu := nums_any _ _ [l.kind, l.fr, l.to, l.seq] (ints_new (W.alloc (.cells (ltC l).toArray Tlt)) [l.kind, l.fr, l.to, l.seq]) (by simp) hr
  have hNl : N.length ≤ 36 := by
    rw [hN]
    exact length_nums [l.kind, l.fr, l.to, l.seq] (fun k hk => (hr k hk).2)
  have hnn : ([l.kind, l.fr, l.to, l.seq].flatMap fun k => numOf (nat0 k)) = N := hN.symm
  rw [hnn] at hnu
  simp only [List.map_cons, List.map_nil, List.length_cons, List.length_nil, Nat.zero_add, Nat.reduceAdd] at hnu
  rw [show (W.alloc (.cells (ltC l).toArray Tlt)).heap.size = W.heap.size + 1 from by simp] at hnu
  have HNU := Lib.hid hnu
  have HB := Lib.hid (hB0.trans (hA.mono hB0.size))
  have HM0 := Lib.hid (hM0.below hA hM0.lt)
  have HI := Lib.hid (fun w => hasID_any l.kind w)
  have HLI := Lib.hid (fun w => hasLists_any l.kind w)
  have HWH := Lib.hid (fun w => hasWhat_any l.kind w)
  have HTX := Lib.hid (fun w => hasText_any l.kind w)
  rw [hi] at HI
  rw [hli] at HLI
  rw [hwh] at HWH
  rw [hte] at HTX
  rw [← hN]
  have HID := Lib.hid hid
  clear hnu hnn hM0 hB0 hA hN hr hi hli hwh hte hid
  go_enter Try.func18, Try.ntmps18
  go_wp2_with fail
  refine HNU.out.mono ?_
  rintro e w1 ⟨rfl, hb1⟩
  have HB1 := Lib.hid (HB.out.trans (hb1.mono HB.out.size))
  have HM1 := Lib.hid (Mem.below HM0.out hb1 HM0.out.lt)
  obtain ⟨⟨e0, -, -, -⟩, -⟩ := lt_cells HM1.out HID.out
  clear hb1
  go_wp2_with fail
  refine (HI.out _).mono ?_
  rintro e w ⟨rfl, rfl⟩
  go_wp2_with fail
  refine (HLI.out _).mono ?_
  rintro e w ⟨rfl, rfl⟩
  go_wp2_with fail
  refine (HWH.out _).mono ?_
  rintro e w ⟨rfl, rfl⟩
  go_wp2_with fail
  refine (HTX.out _).mono ?_
  rintro e w ⟨rfl, rfl⟩
  go_wp2_with fail
  go_ret
  exact ⟨rfl, HB1.out⟩
end Go.Proofs.Ytbkknhlagohhhaa
