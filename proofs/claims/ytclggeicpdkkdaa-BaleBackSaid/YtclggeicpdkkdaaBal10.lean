/-
  The laws' take behind an error: names.
-/
import Derived.Test.YtclggeicpdkkdaaBal9
namespace Go.Proofs.Ytclggeicpdkkdaa
open Go.RowKit Crv


theorem s5_of {w' : World} {B Y : Nat} {x : List UInt8} (hB : Mem w' B Ti (x.map byteV)) (hY : Mem w' Y Tr badCells) :
    w'.rangeAt B 0 (x.map byteV) ∧ w'.cell? ⟨Y, 0, none⟩ = some (.string (str [])) ∧ w'.cell? ⟨Y, 1, none⟩ = some (.int .i64 2) :=
  ⟨hB.range 0 _ ⟨[], by simp⟩, hY.cell 0, hY.cell 1⟩
theorem s5_end {w' : World} {N B Y : Nat} {x : List UInt8} (hB : Mem w' B Ti (x.map byteV)) (hY : Mem w' Y Tr badCells) (h1 : N + 1 + 1 < B) (h2 : N + 1 + 1 < Y) :
    (takeEnd w' N).rangeAt B 0 (x.map byteV) ∧ (takeEnd w' N).cell? ⟨Y, 0, none⟩ = some (.string (str [])) ∧ (takeEnd w' N).cell? ⟨Y, 1, none⟩ = some (.int .i64 2) :=
  s5_of ((hB.other (by simp; omega) _).other (by simp; omega) _) ((hY.other (by simp; omega) _).other (by simp; omega) _)
/-- What the last statement of a way of take reads. -/
def Way5 (w' : World) (N g B Y : Nat) (n : Int) (x : List UInt8) : Prop := TakeW w' N g 5 n ∧ Mem w' B Ti (x.map byteV) ∧ Mem w' Y Tr badCells
theorem Way5.below {w w' : World} {N g B Y : Nat} {n : Int} {x : List UInt8} (h : Way5 w N g B Y n x) (hb : Below w.heap.size w w') : Way5 w' N g B Y n x := ⟨h.1.below hb, h.2.1.below hb h.2.1.lt, h.2.2.below hb h.2.2.lt⟩

set_option maxRecDepth 100000 in
set_option maxHeartbeats 2000000 in
theorem take_5 (n : Int) (w : World) (g : Nat) (h : BM w g badS) :
    Calls Try.prog 28 #[ptr g, bad, .agg #[.int .i64 5, .int .i64 n]] w (TakeBad w g) := by
  have hgN : g < w.heap.size := Mem.lt h
  have HW := Lib.hid (takeW_new (k := 5) (n := n) h)
  have HF := Lib.hid (takeW_from w 5 n (some g))
  clear h
  have HID := Lib.hid (idB_any _ g badS HW.out.2.2.2 (Mem.lt HW.out.2.2.2))
  have HNM := Lib.hid (name_any [])
  rw [bytesS_bad] at HID
  simp only at HID
  obtain ⟨x, hx⟩ : ∃ x, x = nameOf [] := ⟨_, rfl⟩
  have hxl : x.length = 32 := by rw [hx]; exact length_nameOf _
  rw [← hx] at HID HNM
  clear hx
  have SZ := Lib.hid (sz_id x hxl)
  have HZ := Lib.hid (show (List.replicate 32 (byteV 0)).length = (x.map byteV).length by rw [List.length_map, hxl]; rfl)
  have ONE := Lib.hid (oneBytes x)
  have q1 : ∀ W, (binOp .eql Ti (.agg (x.map byteV).toArray) (.agg (x.map byteV).toArray)).run Try.prog W = .ok (.bool true) W := fun W => by
    rw [run_eql_bytes Ti 5 32 Try.underlying30 Try.underlying5 (by kernel_rfl) _ _ hxl hxl W]; simp
  have HXL := Lib.hid hxl
  clear hxl
  go_enter Try.func28, Try.ntmps28
  go_wp2_with fail
  refine HID.out.mono ?_
  rintro e w1 ⟨rfl, hm1, hg1⟩
  have HW1 := Lib.hid (HW.out.grown hg1 hgN hm1)
  have HF1 := Lib.hid (grown_trans HF.out hg1)
  clear HW HF hm1 hg1 HID
  go_wp2_with (first
    | (refine wp_store_gen (B := w1.heap.size) (w0 := w1) (belowSelf w1 _) (Nat.le_refl _) (Mem.newAt w1 Ti (List.replicate 32 (byteV 0)) rfl) (x.map byteV) Ti (.tmp 20) (.tmp 95) rfl rfl rfl rfl SZ.out HZ.out ONE.out ?_
       intro W2 hm2 hb2 hz2 hk2
       have HX2 := Lib.hid hm2
       have HW2 := Lib.hid (HW1.out.below hb2)
       have HF2 := Lib.hid (grown_below HF1.out hb2)
       clear hm2 hb2 hz2 hk2
       obtain ⟨c0, c1, c2, c3, c4, c5, f4, f5, hs1⟩ := HW2.out.cells)
    | fail)
  refine (refBytes_bad 32 _).mono ?_
  rintro e w3 ⟨rfl, hb3⟩
  have HF3 := Lib.hid (grown_below HF2.out hb3)
  have HN1 := Lib.hid (HW1.out.cells.2.2.2.2.2.2.2.2)
  have HN3 := Lib.hid ((HW2.out.below hb3).cells.2.2.2.2.2.2.2.2)
  have HWY := Lib.hid (show Way5 (w3.alloc (.cells badCells.toArray Tr)) w.heap.size g w1.heap.size w3.heap.size n x from ⟨(HW2.out.below hb3).below (belowSelf _ _), (HX2.out.below hb3 HX2.out.lt).alloc _, Mem.newAt w3 Tr badCells rfl⟩)
  clear HW1 HF1 HW2 HF2 HX2 hb3 c0 c1 c2 c3 c4 c5 f4 f5 hs1
  obtain ⟨W4, hW4⟩ : ∃ W4, W4 = w3.alloc (.cells badCells.toArray Tr) := ⟨_, rfl⟩
  have HF4 := Lib.hid (show w.grownBy W4.drew (some g) by rw [hW4]; exact grown_drew (grown_below HF3.out (belowSelf _ _)))
  rw [← hW4] at HWY
  have HWYD := Lib.hid (show Way5 W4.drew w.heap.size g w1.heap.size w3.heap.size n x from HWY.out)
  clear HF3
  go_wp2_with fail
  rw [← hW4]
  clear hW4
  have hu := Try.underlying30
  have hi : (Try.prog.info? Ti).map (·.size) = some (x.map byteV).length := SZ.out
  have hln : (x.map byteV).length = 32 := by rw [List.length_map, HXL.out]
  have hN1 : w.heap.size + 1 + 1 < w1.heap.size := HN1.out
  have hN3 : w.heap.size + 1 + 1 < w3.heap.size := HN3.out
  go_region_held3 (fun w' => w'.rangeAt w1.heap.size 0 (x.map byteV) ∧ w'.cell? ⟨w3.heap.size, 0, none⟩ = some (.string (str [])) ∧ w'.cell? ⟨w3.heap.size, 1, none⟩ = some (.int .i64 2))
    (first
      | (exact s5_of HWY.out.2.1 HWY.out.2.2)
      | (exact s5_of (HWYD.out.below hbk).2.1 (HWYD.out.below hbk).2.2)
      | (exact s5_end (HWYD.out.below hbk).2.1 (HWYD.out.below hbk).2.2 hN1 hN3))
    (first
      | (go_at_call 10; refine (HNM.out _).mono ?_; rintro e w5 ⟨rfl, hbk⟩; obtain ⟨d0, d1, d2, d3, d4, d5, e4, e5, hs5⟩ := (HWYD.out.below hbk).1.cells))
  rename_i K1 hK1 K hK hHe
  refine hK _ _ ?_
  go_wp2
  obtain ⟨r1, r2, r3⟩ := take_end (HWYD.out.below hbk).1 (grown_below HF4.out hbk) hgN
  exact bodyPost_ret (resultsCellTmp r1 rfl _ _ rfl Try.underlying54 rfl sz_ref) rfl ⟨rfl, r2, r3⟩

theorem s6_of {w' : World} {Y : Nat} (hY : Mem w' Y Tr badCells) : w'.cell? ⟨Y, 0, none⟩ = some (.string (str [])) ∧ w'.cell? ⟨Y, 1, none⟩ = some (.int .i64 2) := ⟨hY.cell 0, hY.cell 1⟩
theorem s6_end {w' : World} {N Y : Nat} (hY : Mem w' Y Tr badCells) (h2 : N + 1 + 1 < Y) : (takeEnd w' N).cell? ⟨Y, 0, none⟩ = some (.string (str [])) ∧ (takeEnd w' N).cell? ⟨Y, 1, none⟩ = some (.int .i64 2) :=
  s6_of ((hY.other (by simp; omega) _).other (by simp; omega) _)
def Way6 (w' : World) (N g Y : Nat) (n : Int) : Prop := TakeW w' N g 6 n ∧ Mem w' Y Tr badCells
theorem Way6.below {w w' : World} {N g Y : Nat} {n : Int} (h : Way6 w N g Y n) (hb : Below w.heap.size w w') : Way6 w' N g Y n := ⟨h.1.below hb, h.2.below hb h.2.lt⟩

set_option maxRecDepth 100000 in
set_option maxHeartbeats 2000000 in
theorem take_6 (n : Int) (w : World) (g : Nat) (h : BM w g badS) (h1 : -9223372036854775808 ≤ n) (h2 : n < 9223372036854775808) :
    Calls Try.prog 28 #[ptr g, bad, .agg #[.int .i64 6, .int .i64 n]] w (TakeBad w g) := by
  have hgN : g < w.heap.size := Mem.lt h
  have HW := Lib.hid (takeW_new (k := 6) (n := n) h)
  have HF := Lib.hid (takeW_from w 6 n (some g))
  clear h
  go_enter Try.func28, Try.ntmps28
  go_wp2_with fail
  refine (idsB_bad _ g n HW.out.2.2.2 h1 h2).mono ?_
  rintro e w1 ⟨rfl, hm1, hg1⟩
  have HW1 := Lib.hid (HW.out.grown hg1 hgN hm1)
  have HF1 := Lib.hid (grown_trans HF.out hg1)
  clear HW HF hm1 hg1
  obtain ⟨c0, c1, c2, c3, c4, c5, f4, f5, hs1⟩ := HW1.out.cells
  go_wp2_with fail
  refine (refIDs_bad n _).mono ?_
  rintro e w3 ⟨rfl, hb3⟩
  have HF3 := Lib.hid (grown_below HF1.out hb3)
  have HN3 := Lib.hid ((HW1.out.below hb3).cells.2.2.2.2.2.2.2.2)
  have HWY := Lib.hid (show Way6 (w3.alloc (.cells badCells.toArray Tr)) w.heap.size g w3.heap.size n from ⟨(HW1.out.below hb3).below (belowSelf _ _), Mem.newAt w3 Tr badCells rfl⟩)
  clear HW1 HF1 hb3 c0 c1 c2 c3 c4 c5 f4 f5 hs1
  obtain ⟨W4, hW4⟩ : ∃ W4, W4 = w3.alloc (.cells badCells.toArray Tr) := ⟨_, rfl⟩
  have HF4 := Lib.hid (show w.grownBy W4.drew (some g) by rw [hW4]; exact grown_drew (grown_below HF3.out (belowSelf _ _)))
  rw [← hW4] at HWY
  have HWYD := Lib.hid (show Way6 W4.drew w.heap.size g w3.heap.size n from HWY.out)
  clear HF3
  go_wp2_with fail
  rw [← hW4]
  clear hW4
  have hN3 : w.heap.size + 1 + 1 < w3.heap.size := HN3.out
  go_region_held3 (fun w' => w'.cell? ⟨w3.heap.size, 0, none⟩ = some (.string (str [])) ∧ w'.cell? ⟨w3.heap.size, 1, none⟩ = some (.int .i64 2))
    (first
      | (exact s6_of HWY.out.2)
      | (exact s6_of (HWYD.out.below hbk).2)
      | (exact s6_end (HWYD.out.below hbk).2 hN3))
    (first
      | (go_at_call 38; refine (names_nil _).mono ?_; rintro e w5 ⟨rfl, hbk⟩; obtain ⟨d0, d1, d2, d3, d4, d5, e4, e5, hs5⟩ := (HWYD.out.below hbk).1.cells)
      | (go_at_call 22; refine (same_nil _ _).mono ?_; rintro e w6 ⟨rfl, rfl⟩))
  rename_i K1 hK1 K hK hHe
  refine hK _ _ ?_
  go_wp2
  obtain ⟨r1, r2, r3⟩ := take_end (HWYD.out.below hbk).1 (grown_below HF4.out hbk) hgN
  exact bodyPost_ret (resultsCellTmp r1 rfl _ _ rfl Try.underlying54 rfl sz_ref) rfl ⟨rfl, r2, r3⟩

theorem take_bad (k n : Int) (w : World) (g : Nat) (h : BM w g badS) (h1 : -9223372036854775808 ≤ n) (h2 : n < 9223372036854775808) :
    Calls Try.prog 28 #[ptr g, bad, .agg #[.int .i64 k, .int .i64 n]] w (TakeBad w g) := by
  by_cases k1 : k = 1
  · subst k1; exact take_1 n w g h
  by_cases k2 : k = 2
  · subst k2; exact take_2 n w g h
  by_cases k3 : k = 3
  · subst k3; exact take_3 n w g h h1 h2
  by_cases k4 : k = 4
  · subst k4; exact take_4 n w g h h1 h2
  by_cases k5 : k = 5
  · subst k5; exact take_5 n w g h
  by_cases k6 : k = 6
  · subst k6; exact take_6 n w g h h1 h2
  exact take_0 k n w g h (by simpa using k1) (by simpa using k2) (by simpa using k3) (by simpa using k4) (by simpa using k5) (by simpa using k6)
end Go.Proofs.Ytclggeicpdkkdaa
