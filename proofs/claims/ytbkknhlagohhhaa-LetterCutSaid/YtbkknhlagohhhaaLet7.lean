/-
  letter.decoded where the kind has nothing more.
-/
import Derived.Test.YtbkknhlagohhhaaLet6
namespace Go.Proofs.Ytbkknhlagohhhaa
open Go.RowKit Crv

/-- What decoded reads: kind, From, To, number; what is left. -/
def dec4 (s : BSt) : LV × BSt :=
  ({ zeroL with kind := ((intS s 10).2 : Int), fr := ((intS (intS s 10).1 63).2 : Int), to := ((intS (intS (intS s 10).1 63).1 63).2 : Int), seq := ((intS (intS (intS (intS s 10).1 63).1 63).1 4294967296).2 : Int) }, (intS (intS (intS (intS s 10).1 63).1 63).1 4294967296).1)
theorem grown_set {a w : World} {r : Nat} (h : a.grownBy w (some r)) (g i : Nat) (u : Value) (hg : a.heap.size ≤ g) : a.grownBy (w.setCell ⟨g, i, none⟩ u) (some r) :=
  ⟨h.os, h.tape, h.output, by simpa [World.setCell] using h.size, fun k hk hne => (Below.heap_setCell w ⟨g, i, none⟩ u k (by simp only; omega)).trans (h.block k hk hne)⟩
theorem grown_thn {a b c : World} {r : Nat} (h : a.grownBy b (some r)) (h2 : b.grownBy c (some r)) : a.grownBy c (some r) :=
  ⟨h2.os.trans h.os, h2.tape.trans h.tape, h2.output.trans h.output, Nat.le_trans h.size h2.size, fun k hk hne => (h2.block k (Nat.lt_of_lt_of_le hk h.size) hne).trans (h.block k hk hne)⟩
set_option maxHeartbeats 2000000 in
set_option maxRecDepth 100000 in
theorem decoded_plain (W : World) (g : Nat) (s : BSt) (hbm : BM W g s) (hi : idK (dec4 s).1.kind = false) (hli : listK (dec4 s).1.kind = false) (hwh : whatK (dec4 s).1.kind = false) (hte : textK (dec4 s).1.kind = false) :
    Calls Try.prog 57 #[ptr g] W fun e w' => e = .returned (.agg (ltC (dec4 s).1).toArray) ∧ BM w' g (dec4 s).2 ∧ W.grownBy w' (some g) := by
  have hgl : g < W.heap.size := Mem.lt hbm
  have hM1 : Mem ((W.alloc (.cells zA Tlt)).alloc (.cells zA Tlt)) W.heap.size Tlt (ltC zeroL) := by
    rw [zero_cells]
    exact (Mem.new W Tlt (ltC zeroL)).alloc _
  have hM2 : Mem ((W.alloc (.cells zA Tlt)).alloc (.cells zA Tlt)) (W.heap.size + 1) Tlt (ltC zeroL) := by
    rw [zero_cells]
    exact Mem.newAt _ Tlt (ltC zeroL) (by simp)
  have hB : Below W.heap.size W ((W.alloc (.cells zA Tlt)).alloc (.cells zA Tlt)) := ((Below.refl _ _).alloc (Nat.le_refl _) _).alloc (by simp) _
  have HG0 := Lib.hid (show W.grownBy ((W.alloc (.cells zA Tlt)).alloc (.cells zA Tlt)) (some g) from grownOfBelow hB)
  have HB0 : Hid (BM ((W.alloc (.cells zA Tlt)).alloc (.cells zA Tlt)) g s) := Lib.hid (BM.below hbm hB)
  have HM1 := Lib.hid hM1
  have HM2 := Lib.hid hM2
  have HI := Lib.hid (fun w => hasID_any (dec4 s).1.kind w)
  have HLI := Lib.hid (fun w => hasLists_any (dec4 s).1.kind w)
  have HWH := Lib.hid (fun w => hasWhat_any (dec4 s).1.kind w)
  have HTX := Lib.hid (fun w => hasText_any (dec4 s).1.kind w)
  rw [hi] at HI
  rw [hli] at HLI
  rw [hwh] at HWH
  rw [hte] at HTX
  obtain ⟨r, hr⟩ : ∃ r, r = dec4 s := ⟨_, rfl⟩
  rw [← hr] at HI HLI HWH HTX ⊢
  have HRR := Lib.hid hr
  have H1 := Lib.hid (intB_any _ g s 10 HB0.out (by omega) (by omega))
  clear hbm hM1 hM2 hB hi hli hwh hte hr
  go_enter Try.func57, Try.ntmps57
  go_wp2_with fail
  refine H1.out.mono ?_
  rintro e w1 ⟨rfl, hb1, hg1⟩
  have hN1 := Mem.grown HM1.out hg1 (fun e => by injection e with e; omega)
  have hN2 := Mem.grown HM2.out hg1 (fun e => by injection e with e; omega)
  have c1 := hN2.cell 0
  have z1 := hN2.frozen 0
  obtain ⟨x1, hx1⟩ : ∃ x : Nat, x = (intS s 10).2 := ⟨_, rfl⟩
  rw [← hx1]
  obtain ⟨s1, hs1⟩ : ∃ s' : BSt, s' = (intS s 10).1 := ⟨_, rfl⟩
  rw [← hs1] at hb1
  have hP2 := hN2.set 0 (.int .i64 (x1 : Int))
  have hP1 := hN1.other (p := ⟨W.heap.size + 1, 0, none⟩) (by simp only; omega) (.int .i64 (x1 : Int))
  have hQB : BM (w1.setCell ⟨W.heap.size + 1, 0, none⟩ (.int .i64 (x1 : Int))) g s1 := Mem.other hb1 (by simp only; omega) _
  obtain ⟨l1, hl1⟩ : ∃ l : LV, l = { zeroL with kind := (x1 : Int) } := ⟨_, rfl⟩
  rw [show (ltC zeroL).set 0 (.int .i64 (x1 : Int)) = ltC l1 by rw [hl1]; rfl] at hP2
  have HG1 := Lib.hid (grown_set (grown_thn HG0.out hg1) (W.heap.size + 1) 0 (.int .i64 (x1 : Int)) (by omega))
  have HS1 := Lib.hid hs1
  have HX1 := Lib.hid hx1
  have HL1 := Lib.hid hl1
  clear HM1 HM2 hN1 hN2 hs1 hx1 hl1 hb1 hg1 H1
  have HM1 := Lib.hid hP1
  have HM2 := Lib.hid hP2
  have H2 := Lib.hid (intB_any _ g s1 63 hQB (by omega) (by omega))
  clear hP1 hP2 hQB
  go_wp2_with fail
  refine H2.out.mono ?_
  rintro e w2 ⟨rfl, hb2, hg2⟩
  have hN1 := Mem.grown HM1.out hg2 (fun e => by injection e with e; omega)
  have hN2 := Mem.grown HM2.out hg2 (fun e => by injection e with e; omega)
  have c2 := hN2.cell 1
  have z2 := hN2.frozen 1
  obtain ⟨x2, hx2⟩ : ∃ x : Nat, x = (intS s1 63).2 := ⟨_, rfl⟩
  rw [← hx2]
  obtain ⟨s2, hs2⟩ : ∃ s' : BSt, s' = (intS s1 63).1 := ⟨_, rfl⟩
  rw [← hs2] at hb2
  have hP2 := hN2.set 1 (.int .i64 (x2 : Int))
  have hP1 := hN1.other (p := ⟨W.heap.size + 1, 1, none⟩) (by simp only; omega) (.int .i64 (x2 : Int))
  have hQB : BM (w2.setCell ⟨W.heap.size + 1, 1, none⟩ (.int .i64 (x2 : Int))) g s2 := Mem.other hb2 (by simp only; omega) _
  obtain ⟨l2, hl2⟩ : ∃ l : LV, l = { l1 with fr := (x2 : Int) } := ⟨_, rfl⟩
  rw [show (ltC l1).set 1 (.int .i64 (x2 : Int)) = ltC l2 by rw [hl2]; rfl] at hP2
  have HG2 := Lib.hid (grown_set (grown_thn HG1.out hg2) (W.heap.size + 1) 1 (.int .i64 (x2 : Int)) (by omega))
  have HS2 := Lib.hid hs2
  have HX2 := Lib.hid hx2
  have HL2 := Lib.hid hl2
  clear HM1 HM2 hN1 hN2 hs2 hx2 hl2 hb2 hg2 H2
  have HM1 := Lib.hid hP1
  have HM2 := Lib.hid hP2
  have H3 := Lib.hid (intB_any _ g s2 63 hQB (by omega) (by omega))
  clear hP1 hP2 hQB
  go_wp2_with fail
  refine H3.out.mono ?_
  rintro e w3 ⟨rfl, hb3, hg3⟩
  have hN1 := Mem.grown HM1.out hg3 (fun e => by injection e with e; omega)
  have hN2 := Mem.grown HM2.out hg3 (fun e => by injection e with e; omega)
  have c3 := hN2.cell 2
  have z3 := hN2.frozen 2
  obtain ⟨x3, hx3⟩ : ∃ x : Nat, x = (intS s2 63).2 := ⟨_, rfl⟩
  rw [← hx3]
  obtain ⟨s3, hs3⟩ : ∃ s' : BSt, s' = (intS s2 63).1 := ⟨_, rfl⟩
  rw [← hs3] at hb3
  have hP2 := hN2.set 2 (.int .i64 (x3 : Int))
  have hP1 := hN1.other (p := ⟨W.heap.size + 1, 2, none⟩) (by simp only; omega) (.int .i64 (x3 : Int))
  have hQB : BM (w3.setCell ⟨W.heap.size + 1, 2, none⟩ (.int .i64 (x3 : Int))) g s3 := Mem.other hb3 (by simp only; omega) _
  obtain ⟨l3, hl3⟩ : ∃ l : LV, l = { l2 with to := (x3 : Int) } := ⟨_, rfl⟩
  rw [show (ltC l2).set 2 (.int .i64 (x3 : Int)) = ltC l3 by rw [hl3]; rfl] at hP2
  have HG3 := Lib.hid (grown_set (grown_thn HG2.out hg3) (W.heap.size + 1) 2 (.int .i64 (x3 : Int)) (by omega))
  have HS3 := Lib.hid hs3
  have HX3 := Lib.hid hx3
  have HL3 := Lib.hid hl3
  clear HM1 HM2 hN1 hN2 hs3 hx3 hl3 hb3 hg3 H3
  have HM1 := Lib.hid hP1
  have HM2 := Lib.hid hP2
  have H4 := Lib.hid (intB_any _ g s3 4294967296 hQB (by omega) (by omega))
  clear hP1 hP2 hQB
  go_wp2_with fail
  refine H4.out.mono ?_
  rintro e w4 ⟨rfl, hb4, hg4⟩
  have hN1 := Mem.grown HM1.out hg4 (fun e => by injection e with e; omega)
  have hN2 := Mem.grown HM2.out hg4 (fun e => by injection e with e; omega)
  have c4 := hN2.cell 3
  have z4 := hN2.frozen 3
  obtain ⟨x4, hx4⟩ : ∃ x : Nat, x = (intS s3 4294967296).2 := ⟨_, rfl⟩
  rw [← hx4]
  obtain ⟨s4, hs4⟩ : ∃ s' : BSt, s' = (intS s3 4294967296).1 := ⟨_, rfl⟩
  rw [← hs4] at hb4
  have hP2 := hN2.set 3 (.int .i64 (x4 : Int))
  have hP1 := hN1.other (p := ⟨W.heap.size + 1, 3, none⟩) (by simp only; omega) (.int .i64 (x4 : Int))
  have hQB : BM (w4.setCell ⟨W.heap.size + 1, 3, none⟩ (.int .i64 (x4 : Int))) g s4 := Mem.other hb4 (by simp only; omega) _
  obtain ⟨l4, hl4⟩ : ∃ l : LV, l = { l3 with seq := (x4 : Int) } := ⟨_, rfl⟩
  rw [show (ltC l3).set 3 (.int .i64 (x4 : Int)) = ltC l4 by rw [hl4]; rfl] at hP2
  have HG4 := Lib.hid (grown_set (grown_thn HG3.out hg4) (W.heap.size + 1) 3 (.int .i64 (x4 : Int)) (by omega))
  have HS4 := Lib.hid hs4
  have HX4 := Lib.hid hx4
  have HL4 := Lib.hid hl4
  clear HM1 HM2 hN1 hN2 hs4 hx4 hl4 hb4 hg4 H4
  have HM1 := Lib.hid hP1
  have HM2 := Lib.hid hP2
  have HQB := Lib.hid hQB
  clear hP1 hP2 hQB
  have hr1 : r.1 = l4 := by
    rw [HRR.out]
    unfold dec4
    rw [HL4.out, HL3.out, HL2.out, HL1.out, HX4.out, HX3.out, HX2.out, HX1.out, HS3.out, HS2.out, HS1.out]
  have hr2 : r.2 = s4 := by
    rw [HRR.out]
    unfold dec4
    rw [HS4.out, HS3.out, HS2.out, HS1.out]
  rw [hr1] at HI HLI HWH HTX
  have HR1 := Lib.hid hr1
  have HR2 := Lib.hid hr2
  have hid4 : l4.id.length = 32 := by rw [HL4.out, HL3.out, HL2.out, HL1.out]; rfl
  have hone : l4.pv.oneCell' = true ∧ l4.hv.oneCell' = true := by rw [HL4.out, HL3.out, HL2.out, HL1.out]; exact ⟨rfl, rfl⟩
  have SZ := Lib.hid (sz_lt l4 hid4)
  have ONE := Lib.hid (one_ltC l4 hone.1 hone.2)
  have HLE := Lib.hid (show (ltC zeroL).length = (ltC l4).length by rw [length_ltC zeroL rfl, length_ltC l4 hid4])
  have hk := HM2.out.cell 0
  have hk2 : (w4.setCell ⟨W.heap.size + 1, 3, none⟩ (.int .i64 (x4 : Int))).cell? ⟨W.heap.size + 1, 0, none⟩ = some (.int .i64 l4.kind) := hk
  clear hr1 hr2 hid4 hone hk
  go_wp2_with fail
  refine (HI.out _).mono ?_
  rintro e w ⟨rfl, rfl⟩
  go_wp2_with fail
  refine (HLI.out _).mono ?_
  rintro e w ⟨rfl, rfl⟩
  go_wp2_with fail
  refine (HWH.out _).mono ?_
  rintro e w ⟨rfl, rfl⟩
  go_wp2_with fail
  refine (HTX.out _).mono ?_
  rintro e w ⟨rfl, rfl⟩
  have hsz4 := HG4.out.size
  go_wp2_with (first
    | (refine wp_load_mem HM2.out Tlt (.tmp 3) _ rfl rfl rfl Try.underlying26 rfl SZ.out ?_)
    | (refine wp_store_gen (B := 0) (w0 := w4.setCell ⟨W.heap.size + 1, 3, none⟩ (.int .i64 (x4 : Int))) (Below.refl _ _) (Nat.zero_le _) HM1.out (ltC l4) Tlt (.tmp 2) (.tmp 43) rfl rfl rfl rfl SZ.out HLE.out ONE.out ?_
       intro W5 hm5 hb5 hsz5 ho5
       have HM5 := Lib.hid hm5
       have HB5 := Lib.hid (show BM W5 g s4 from (ho5 g (by omega)).trans HQB.out)
       have HG5 := Lib.hid (show W.grownBy W5 (some g) from ⟨hb5.os.trans HG4.out.os, hb5.tape.trans HG4.out.tape, hb5.output.trans HG4.out.output, by omega, fun k hk hne => (ho5 k (by omega)).trans (HG4.out.block k hk hne)⟩)
       clear hm5 hb5 hsz5 ho5)
    | fail)
  refine bodyPost_ret (results_mem HM5.out rfl _ _ rfl Try.underlying26 rfl SZ.out) rfl ⟨?_, ?_, HG5.out⟩
  · rw [HR1.out]
  · rw [HR2.out]
    exact HB5.out
end Go.Proofs.Ytbkknhlagohhhaa
