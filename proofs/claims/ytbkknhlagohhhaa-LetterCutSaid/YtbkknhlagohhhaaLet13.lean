/-
  letter.decoded, whole.
-/
import Derived.Test.YtbkknhlagohhhaaLet11
import Derived.Test.YtbkknhlagohhhaaLet12
namespace Go.Proofs.Ytbkknhlagohhhaa
open Go.RowKit Crv

theorem Owns.rebase {w : World} {base base' : Nat} {e : TypeId} {v : Value} {xs : List Value} (hb : base' ≤ base) (h : Owns w base e v xs) : Owns w base' e v xs := by
  refine ⟨h.1, ?_⟩
  rcases h.2 with h0 | ⟨g, cap, cur, h1, h2, h3⟩
  · exact .inl h0
  · exact .inr ⟨g, cap, cur, h1, Nat.le_trans hb h2, h3⟩

def decId (k : Int) (s : BSt) : List UInt8 × BSt := if idK k = true then (nameOf (bytesS s 32).2, (bytesS s 32).1) else (zeroL.id, s)
def decLists (k : Int) (s : BSt) : (List Int × List Int) × BSt := if listK k = true then (((adrS s).1, (adrS (adrS s).2).1), (adrS (adrS s).2).2) else (([], []), s)
def decWhat (k : Int) (s : BSt) : Int × BSt := if whatK k = true then (((intS s 3).2 : Int), (intS s 3).1) else (0, s)
def decText (k : Int) (s : BSt) : List UInt8 × BSt := if textK k = true then ((strS s 512).2, (strS s 512).1) else ([], s)
/-- What decoded reads, the lists' values aside. -/
def decW (s : BSt) : LV × (List Int × List Int) × BSt :=
  let k := (dec4 s).1.kind
  let b := decId k (dec4 s).2
  let c := decLists k b.2
  let d := decWhat k c.2
  let e := decText k d.2
  ({ (dec4 s).1 with id := b.1, what := d.1, text := e.1 }, c.1, e.2)
set_option maxHeartbeats 4000000 in
set_option maxRecDepth 100000 in
theorem decoded_any (W : World) (g : Nat) (s : BSt) (hbm : BM W g s) :
    Calls Try.prog 57 #[ptr g] W fun e w' => ∃ pv hv, e = .returned (.agg (ltC { (decW s).1 with pv := pv, hv := hv }).toArray) ∧ Owns w' W.heap.size Tii pv ((decW s).2.1.1.map fun k => Value.int .i64 k) ∧ Owns w' W.heap.size Tii hv ((decW s).2.1.2.map fun k => Value.int .i64 k) ∧ BM w' g (decW s).2.2 ∧ W.grownBy w' (some g) := by
  have hgl : g < W.heap.size := Mem.lt hbm
  have hM1 : Mem ((W.alloc (.cells zA Tlt)).alloc (.cells zA Tlt)) W.heap.size Tlt (ltC zeroL) := by
    rw [zero_cells]
    exact (Mem.new W Tlt (ltC zeroL)).alloc _
  have hM2 : Mem ((W.alloc (.cells zA Tlt)).alloc (.cells zA Tlt)) (W.heap.size + 1) Tlt (ltC zeroL) := by
    rw [zero_cells]
    exact Mem.newAt _ Tlt (ltC zeroL) (by simp)
  have hB : Below W.heap.size W ((W.alloc (.cells zA Tlt)).alloc (.cells zA Tlt)) := ((Below.refl _ _).alloc (Nat.le_refl _) _).alloc (by simp) _
  have HG0 := Lib.hid (show W.grownBy ((W.alloc (.cells zA Tlt)).alloc (.cells zA Tlt)) (some g) from grownOfBelow hB)
  have HB0 : Hid (BM ((W.alloc (.cells zA Tlt)).alloc (.cells zA Tlt)) g s) := Lib.hid (BM.below hbm hB)
  have HM1 := Lib.hid hM1
  have HM2 := Lib.hid hM2
  have HI := Lib.hid (fun w => hasID_any (dec4 s).1.kind w)
  have HLI := Lib.hid (fun w => hasLists_any (dec4 s).1.kind w)
  have HWH := Lib.hid (fun w => hasWhat_any (dec4 s).1.kind w)
  have HTX := Lib.hid (fun w => hasText_any (dec4 s).1.kind w)
  obtain ⟨r, hr⟩ : ∃ r, r = dec4 s := ⟨_, rfl⟩
  have hdw : decW s = (let k := r.1.kind
      let b := decId k r.2
      let c := decLists k b.2
      let d := decWhat k c.2
      let e := decText k d.2
      ({ r.1 with id := b.1, what := d.1, text := e.1 }, c.1, e.2)) := by rw [hr]; rfl
  have HDW := Lib.hid hdw
  rw [← hr] at HI HLI HWH HTX
  have HRR := Lib.hid hr
  obtain ⟨D, hD⟩ : ∃ D, D = decW s := ⟨_, rfl⟩
  rw [← hD] at HDW ⊢
  have H1 := Lib.hid (intB_any _ g s 10 HB0.out (by omega) (by omega))
  clear hbm hM1 hM2 hB hr hdw hD
  go_enter Try.func57, Try.ntmps57
  go_wp2_with fail
  refine H1.out.mono ?_
  rintro e w1 ⟨rfl, hb1, hg1⟩
  have hN1 := Mem.grown HM1.out hg1 (fun e => by injection e with e; omega)
  have hN2 := Mem.grown HM2.out hg1 (fun e => by injection e with e; omega)
  have c1 := hN2.cell 0
  have z1 := hN2.frozen 0
  obtain ⟨x1, hx1⟩ : ∃ x : Nat, x = (intS s 10).2 := ⟨_, rfl⟩
  rw [← hx1]
  obtain ⟨s1, hs1⟩ : ∃ s' : BSt, s' = (intS s 10).1 := ⟨_, rfl⟩
  rw [← hs1] at hb1
  have hP2 := hN2.set 0 (.int .i64 (x1 : Int))
  have hP1 := hN1.other (p := ⟨W.heap.size + 1, 0, none⟩) (by simp only; omega) (.int .i64 (x1 : Int))
  have hQB : BM (w1.setCell ⟨W.heap.size + 1, 0, none⟩ (.int .i64 (x1 : Int))) g s1 := Mem.other hb1 (by simp only; omega) _
  obtain ⟨l1, hl1⟩ : ∃ l : LV, l = { zeroL with kind := (x1 : Int) } := ⟨_, rfl⟩
  rw [show (ltC zeroL).set 0 (.int .i64 (x1 : Int)) = ltC l1 by rw [hl1]; rfl] at hP2
  have HG1 := Lib.hid (grown_set (grown_thn HG0.out hg1) (W.heap.size + 1) 0 (.int .i64 (x1 : Int)) (by omega))
  have HS1 := Lib.hid hs1
  have HX1 := Lib.hid hx1
  have HL1 := Lib.hid hl1
  clear HM1 HM2 hN1 hN2 hs1 hx1 hl1 hb1 hg1 H1
  have HM1 := Lib.hid hP1
  have HM2 := Lib.hid hP2
  have H2 := Lib.hid (intB_any _ g s1 63 hQB (by omega) (by omega))
  clear hP1 hP2 hQB
  go_wp2_with fail
  refine H2.out.mono ?_
  rintro e w2 ⟨rfl, hb2, hg2⟩
  have hN1 := Mem.grown HM1.out hg2 (fun e => by injection e with e; omega)
  have hN2 := Mem.grown HM2.out hg2 (fun e => by injection e with e; omega)
  have c2 := hN2.cell 1
  have z2 := hN2.frozen 1
  obtain ⟨x2, hx2⟩ : ∃ x : Nat, x = (intS s1 63).2 := ⟨_, rfl⟩
  rw [← hx2]
  obtain ⟨s2, hs2⟩ : ∃ s' : BSt, s' = (intS s1 63).1 := ⟨_, rfl⟩
  rw [← hs2] at hb2
  have hP2 := hN2.set 1 (.int .i64 (x2 : Int))
  have hP1 := hN1.other (p := ⟨W.heap.size + 1, 1, none⟩) (by simp only; omega) (.int .i64 (x2 : Int))
  have hQB : BM (w2.setCell ⟨W.heap.size + 1, 1, none⟩ (.int .i64 (x2 : Int))) g s2 := Mem.other hb2 (by simp only; omega) _
  obtain ⟨l2, hl2⟩ : ∃ l : LV, l = { l1 with fr := (x2 : Int) } := ⟨_, rfl⟩
  rw [show (ltC l1).set 1 (.int .i64 (x2 : Int)) = ltC l2 by rw [hl2]; rfl] at hP2
  have HG2 := Lib.hid (grown_set (grown_thn HG1.out hg2) (W.heap.size + 1) 1 (.int .i64 (x2 : Int)) (by omega))
  have HS2 := Lib.hid hs2
  have HX2 := Lib.hid hx2
  have HL2 := Lib.hid hl2
  clear HM1 HM2 hN1 hN2 hs2 hx2 hl2 hb2 hg2 H2
  have HM1 := Lib.hid hP1
  have HM2 := Lib.hid hP2
  have H3 := Lib.hid (intB_any _ g s2 63 hQB (by omega) (by omega))
  clear hP1 hP2 hQB
  go_wp2_with fail
  refine H3.out.mono ?_
  rintro e w3 ⟨rfl, hb3, hg3⟩
  have hN1 := Mem.grown HM1.out hg3 (fun e => by injection e with e; omega)
  have hN2 := Mem.grown HM2.out hg3 (fun e => by injection e with e; omega)
  have c3 := hN2.cell 2
  have z3 := hN2.frozen 2
  obtain ⟨x3, hx3⟩ : ∃ x : Nat, x = (intS s2 63).2 := ⟨_, rfl⟩
  rw [← hx3]
  obtain ⟨s3, hs3⟩ : ∃ s' : BSt, s' = (intS s2 63).1 := ⟨_, rfl⟩
  rw [← hs3] at hb3
  have hP2 := hN2.set 2 (.int .i64 (x3 : Int))
  have hP1 := hN1.other (p := ⟨W.heap.size + 1, 2, none⟩) (by simp only; omega) (.int .i64 (x3 : Int))
  have hQB : BM (w3.setCell ⟨W.heap.size + 1, 2, none⟩ (.int .i64 (x3 : Int))) g s3 := Mem.other hb3 (by simp only; omega) _
  obtain ⟨l3, hl3⟩ : ∃ l : LV, l = { l2 with to := (x3 : Int) } := ⟨_, rfl⟩
  rw [show (ltC l2).set 2 (.int .i64 (x3 : Int)) = ltC l3 by rw [hl3]; rfl] at hP2
  have HG3 := Lib.hid (grown_set (grown_thn HG2.out hg3) (W.heap.size + 1) 2 (.int .i64 (x3 : Int)) (by omega))
  have HS3 := Lib.hid hs3
  have HX3 := Lib.hid hx3
  have HL3 := Lib.hid hl3
  clear HM1 HM2 hN1 hN2 hs3 hx3 hl3 hb3 hg3 H3
  have HM1 := Lib.hid hP1
  have HM2 := Lib.hid hP2
  have H4 := Lib.hid (intB_any _ g s3 4294967296 hQB (by omega) (by omega))
  clear hP1 hP2 hQB
  go_wp2_with fail
  refine H4.out.mono ?_
  rintro e w4 ⟨rfl, hb4, hg4⟩
  have hN1 := Mem.grown HM1.out hg4 (fun e => by injection e with e; omega)
  have hN2 := Mem.grown HM2.out hg4 (fun e => by injection e with e; omega)
  have c4 := hN2.cell 3
  have z4 := hN2.frozen 3
  obtain ⟨x4, hx4⟩ : ∃ x : Nat, x = (intS s3 4294967296).2 := ⟨_, rfl⟩
  rw [← hx4]
  obtain ⟨s4, hs4⟩ : ∃ s' : BSt, s' = (intS s3 4294967296).1 := ⟨_, rfl⟩
  rw [← hs4] at hb4
  have hP2 := hN2.set 3 (.int .i64 (x4 : Int))
  have hP1 := hN1.other (p := ⟨W.heap.size + 1, 3, none⟩) (by simp only; omega) (.int .i64 (x4 : Int))
  have hQB : BM (w4.setCell ⟨W.heap.size + 1, 3, none⟩ (.int .i64 (x4 : Int))) g s4 := Mem.other hb4 (by simp only; omega) _
  obtain ⟨l4, hl4⟩ : ∃ l : LV, l = { l3 with seq := (x4 : Int) } := ⟨_, rfl⟩
  rw [show (ltC l3).set 3 (.int .i64 (x4 : Int)) = ltC l4 by rw [hl4]; rfl] at hP2
  have HG4 := Lib.hid (grown_set (grown_thn HG3.out hg4) (W.heap.size + 1) 3 (.int .i64 (x4 : Int)) (by omega))
  have HS4 := Lib.hid hs4
  have HX4 := Lib.hid hx4
  have HL4 := Lib.hid hl4
  clear HM1 HM2 hN1 hN2 hs4 hx4 hl4 hb4 hg4 H4
  have HM1 := Lib.hid hP1
  have HM2 := Lib.hid hP2
  have HQB := Lib.hid hQB
  clear hP1 hP2 hQB
  have hr1 : r.1 = l4 := by
    rw [HRR.out]
    unfold dec4
    rw [HL4.out, HL3.out, HL2.out, HL1.out, HX4.out, HX3.out, HX2.out, HX1.out, HS3.out, HS2.out, HS1.out]
  have hr2 : r.2 = s4 := by
    rw [HRR.out]
    unfold dec4
    rw [HS4.out, HS3.out, HS2.out, HS1.out]
  rw [hr1] at HI HLI HWH HTX
  rw [hr1, hr2] at HDW
  have hid4 : l4.id = zeroL.id ∧ l4.pv = .slice none 0 0 ∧ l4.hv = .slice none 0 0 ∧ l4.what = 0 ∧ l4.text = [] := by rw [HL4.out, HL3.out, HL2.out, HL1.out]; exact ⟨rfl, rfl, rfl, rfl, rfl⟩
  have HL0 := Lib.hid hid4
  have hi4 : l4.id.length = 32 := by rw [hid4.1]; rfl
  have HI4 := Lib.hid hi4
  have hk := HM2.out.cell 0
  have hk2 : (w4.setCell ⟨W.heap.size + 1, 3, none⟩ (.int .i64 (x4 : Int))).cell? ⟨W.heap.size + 1, 0, none⟩ = some (.int .i64 l4.kind) := hk
  have hsz4 := HG4.out.size
  have hlM := HM2.out.lt
  obtain ⟨k, hkk⟩ : ∃ k, k = l4.kind := ⟨_, rfl⟩
  have HK := Lib.hid hkk
  rw [← hkk] at HI HLI HWH HTX hk2
  obtain ⟨V4, hV4⟩ : ∃ V, V = w4.setCell ⟨W.heap.size + 1, 3, none⟩ (.int .i64 (x4 : Int)) := ⟨_, rfl⟩
  have hk2l := hk2
  rw [← hV4] at HM1 HM2 HQB HG4 hk2 hsz4 hlM
  have HV4 := Lib.hid hV4
  clear hr1 hr2 hid4 hk hkk hV4 HRR HL1 HL2 HL3 HL4 HX1 HX2 HX3 HX4 HS1 HS2 HS3 HS4
  go_wp2_with fail
  rw [← HV4.out]
  clear hk2l
  rcases Bool.eq_false_or_eq_true (idK k) with kI | kI
  · rcases Bool.eq_false_or_eq_true (listK k) with kL | kL
    · obtain ⟨kW, kT⟩ := no_list kL
      rw [kI] at HI
      rw [kL] at HLI
      rw [kW] at HWH
      rw [kT] at HTX
      have hdd : D = ({ l4 with id := (decId k s4).1, what := (decWhat k (decLists k (decId k s4).2).2).1, text := (decText k (decWhat k (decLists k (decId k s4).2).2).2).1 }, (decLists k (decId k s4).2).1, (decText k (decWhat k (decLists k (decId k s4).2).2).2).2) := by
        rw [HDW.out, HK.out]
      unfold decId decLists decWhat decText at hdd
      simp only [kI, kL, kW, kT, if_true, Bool.false_eq_true, if_false] at hdd
      have HDD := Lib.hid hdd
      clear hdd kI kL kW kT HDW
      refine (HI.out _).mono ?_
      rintro e w ⟨rfl, rfl⟩
      have HC := Lib.hid (idB_any V4 g s4 HQB.out (by omega))
      obtain ⟨x5, hx5⟩ : ∃ x, x = nameOf (bytesS s4 32).2 := ⟨_, rfl⟩
      obtain ⟨s5, hs5⟩ : ∃ s, s = (bytesS s4 32).1 := ⟨_, rfl⟩
      rw [← hx5, ← hs5] at HC HDD
      have hxl : x5.length = 32 := by rw [hx5]; exact length_nameOf _
      have SZ5 := Lib.hid (sz_id x5 hxl)
      have ONE5 := Lib.hid (oneBytes x5)
      obtain ⟨l5, hl5⟩ : ∃ l : LV, l = { l4 with id := x5 } := ⟨_, rfl⟩
      have HST := Lib.hid (ltC_id l4 HI4.out x5 hxl)
      rw [← hl5] at HST
      have HL5 := Lib.hid hl5
      have HI5 : Hid (l5.id.length = 32) := Lib.hid (by rw [hl5]; exact hxl)
      have HLN := Lib.hid (show 4 + (x5.map byteV).length ≤ (ltC l4).length by rw [length_ltC l4 HI4.out, List.length_map, hxl]; omega)
      clear hx5 hs5 hl5 hxl
      go_wp2_with fail
      refine HC.out.mono ?_
      rintro e w5 ⟨rfl, hb5, hg5⟩
      have hN1 := Mem.grown HM1.out hg5 (fun e => by injection e with e; omega)
      have HN2 := Lib.hid (Mem.grown HM2.out hg5 (fun e => by injection e with e; omega))
      have HN1 := Lib.hid hN1
      have HNB := Lib.hid hb5
      have HNG := Lib.hid (grown_thn HG4.out hg5)
      clear hN1 hb5 hg5 hk2 HC
      go_wp2_with (first
        | (refine wp_store_row2 HN2.out (x5.map byteV) Ti (.tmp 21) (.tmp 20) rfl rfl rfl rfl SZ5.out HLN.out ONE5.out ?_
           intro V5 hm5 hg5
           rw [HST.out] at hm5
           have hP1 : Mem V5 W.heap.size Tlt (ltC zeroL) := Mem.grown HN1.out hg5 (fun e => by injection e with e; omega)
           have hPB : BM V5 g s5 := Mem.grown HNB.out hg5 (fun e => by injection e with e; omega)
           have hPG : W.grownBy V5 (some g) := ⟨hg5.os.trans HNG.out.os, hg5.tape.trans HNG.out.tape, hg5.output.trans HNG.out.output, Nat.le_trans HNG.out.size hg5.size, fun b hb hne => (hg5.block b (Nat.lt_of_lt_of_le hb HNG.out.size) (fun e => by injection e with e; omega)).trans (HNG.out.block b hb hne)⟩
           have hk5 : V5.cell? ⟨W.heap.size + 1, 0, none⟩ = some (.int .i64 k) := by
             rw [HK.out, show l4.kind = l5.kind by rw [HL5.out]]
             exact hm5.cell 0
           clear HM1 HM2 HQB
           have HM2 := Lib.hid hm5
           have HM1 := Lib.hid hP1
           have HQB := Lib.hid hPB
           have HG5 := Lib.hid hPG
           clear hm5 hg5 hP1 hPB hPG HN1 HN2 HNB HNG)
        | fail)
      have hlM5 := HM2.out.lt
      have hsz5 := HG5.out.size
      refine (HLI.out _).mono ?_
      rintro e w ⟨rfl, rfl⟩
      have HC := Lib.hid (addresses_any V5 g s5 HQB.out)
      obtain ⟨q5, hq5⟩ : ∃ q, q = adrS s5 := ⟨_, rfl⟩
      rw [← hq5] at HC HDD
      clear hq5
      go_wp2_with fail
      refine HC.out.mono ?_
      rintro e w6 ⟨v6, rfl, ho6, hb6, hg6⟩
      obtain ⟨a6, c6, hv6, _⟩ := ho6.form
      rw [List.length_map] at hv6
      subst hv6
      have hN1 := Mem.grown HM1.out hg6 (fun e => by injection e with e; omega)
      have hN2 := Mem.grown HM2.out hg6 (fun e => by injection e with e; omega)
      have c38 := (lt_cells hN2 HI5.out).2.2.2.1
      have z38 := hN2.frozen 38
      have hP2 := hN2.set 38 (.slice a6 q5.1.length c6)
      rw [ltC_pv l5 HI5.out] at hP2
      obtain ⟨l6, hl6⟩ : ∃ l : LV, l = { l5 with pv := .slice a6 q5.1.length c6 } := ⟨_, rfl⟩
      rw [← hl6] at hP2
      have hP1 := hN1.other (p := ⟨W.heap.size + 1, 38, none⟩) (by simp only; omega) (.slice a6 q5.1.length c6)
      have hPB : BM (w6.setCell ⟨W.heap.size + 1, 38, none⟩ (.slice a6 q5.1.length c6)) g q5.2 := Mem.other hb6 (by simp only; omega) _
      have HG6 := Lib.hid (grown_set (grown_thn HG5.out hg6) (W.heap.size + 1) 38 (.slice a6 q5.1.length c6) (by omega))
      have ho6s : Owns (w6.setCell ⟨W.heap.size + 1, 38, none⟩ (.slice a6 q5.1.length c6)) V5.heap.size Tii (.slice a6 q5.1.length c6) (q5.1.map fun k => Value.int .i64 k) := ho6.of_below fun b hb => Below.heap_setCell w6 _ _ b (by have := (ho6.lt b hb).2; simp only; omega)
      have HL6 := Lib.hid hl6
      have HI6 : Hid (l6.id.length = 32) := Lib.hid (by rw [hl6]; exact HI5.out)
      clear HM1 HM2 HQB
      have HM1 := Lib.hid hP1
      have HM2 := Lib.hid hP2
      have HQB := Lib.hid hPB
      have HO6 := Lib.hid ho6s
      have hsz6 := HG6.out.size
      have hlM6 := HM2.out.lt
      clear hN1 hN2 hP1 hP2 hPB hb6 hg6 ho6 ho6s hl6 HC hk5
      have HC := Lib.hid (addresses_any _ g q5.2 HQB.out)
      obtain ⟨q6, hq6⟩ : ∃ q, q = adrS q5.2 := ⟨_, rfl⟩
      rw [← hq6] at HC HDD
      clear hq6
      go_wp2_with fail
      refine HC.out.mono ?_
      rintro e w7 ⟨v7, rfl, ho7, hb7, hg7⟩
      obtain ⟨a7, c7, hv7, _⟩ := ho7.form
      rw [List.length_map] at hv7
      subst hv7
      have hN1 := Mem.grown HM1.out hg7 (fun e => by injection e with e; omega)
      have hN2 := Mem.grown HM2.out hg7 (fun e => by injection e with e; omega)
      have ho6n : Owns w7 V5.heap.size Tii (.slice a6 q5.1.length c6) (q5.1.map fun k => Value.int .i64 k) := HO6.out.of_below fun b hb => hg7.block b (HO6.out.lt b hb).1 (fun e => by injection e with e; have := (HO6.out.lt b hb).2; omega)
      have c39 := (lt_cells hN2 HI6.out).2.2.2.2
      have z39 := hN2.frozen 39
      have hP2 := hN2.set 39 (.slice a7 q6.1.length c7)
      rw [ltC_hv l6 HI6.out] at hP2
      obtain ⟨l7, hl7⟩ : ∃ l : LV, l = { l6 with hv := .slice a7 q6.1.length c7 } := ⟨_, rfl⟩
      rw [← hl7] at hP2
      have hP1 := hN1.other (p := ⟨W.heap.size + 1, 39, none⟩) (by simp only; omega) (.slice a7 q6.1.length c7)
      have hPB : BM (w7.setCell ⟨W.heap.size + 1, 39, none⟩ (.slice a7 q6.1.length c7)) g q6.2 := Mem.other hb7 (by simp only; omega) _
      have HG7 := Lib.hid (grown_set (grown_thn HG6.out hg7) (W.heap.size + 1) 39 (.slice a7 q6.1.length c7) (by omega))
      have HO6n := Lib.hid (show Owns (w7.setCell ⟨W.heap.size + 1, 39, none⟩ (.slice a7 q6.1.length c7)) V5.heap.size Tii (.slice a6 q5.1.length c6) (q5.1.map fun k => Value.int .i64 k) from ho6n.of_below fun b hb => Below.heap_setCell w7 _ _ b (by have := (ho6n.lt b hb).2; simp only; omega))
      have hsz7w : W.heap.size + 1 < (w6.setCell ⟨W.heap.size + 1, 38, none⟩ (.slice a6 q5.1.length c6)).heap.size := HM2.out.lt
      have HO7 := Lib.hid (show Owns (w7.setCell ⟨W.heap.size + 1, 39, none⟩ (.slice a7 q6.1.length c7)) (w6.setCell ⟨W.heap.size + 1, 38, none⟩ (.slice a6 q5.1.length c6)).heap.size Tii (.slice a7 q6.1.length c7) (q6.1.map fun k => Value.int .i64 k) from ho7.of_below fun b hb => Below.heap_setCell w7 _ _ b (by have := (ho7.lt b hb).2; simp only; omega))
      have HL7 := Lib.hid hl7
      have HI7 : Hid (l7.id.length = 32) := Lib.hid (by rw [hl7]; exact HI6.out)
      have hk7 : (w7.setCell ⟨W.heap.size + 1, 39, none⟩ (.slice a7 q6.1.length c7)).cell? ⟨W.heap.size + 1, 0, none⟩ = some (.int .i64 k) := by
        rw [HK.out, show l4.kind = l7.kind by rw [HL7.out, HL6.out, HL5.out]]
        exact hP2.cell 0
      clear HM1 HM2 HQB HO6
      have HM1 := Lib.hid hP1
      have HM2 := Lib.hid hP2
      have HQB := Lib.hid hPB
      have hsz7 := HG7.out.size
      have hlM7 := HM2.out.lt
      clear hN1 hN2 hP1 hP2 hPB hb7 hg7 ho7 ho6n hl7 HC hsz7w
      go_wp2_with fail
      refine (HWH.out _).mono ?_
      rintro e w ⟨rfl, rfl⟩
      go_wp2_with fail
      refine (HTX.out _).mono ?_
      rintro e w ⟨rfl, rfl⟩
      have hfin : l7 = { D.1 with pv := (.slice a6 q5.1.length c6), hv := (.slice a7 q6.1.length c7) } := by
        rw [HDD.out, HL7.out, HL6.out, HL5.out]
        obtain ⟨h1, h2, h3, h4, h5⟩ := HL0.out
        cases l4
        simp only at h1 h2 h3 h4 h5
        subst h1 h2 h3 h4 h5
        rfl
      have hst : D.2.2 = q6.2 := by rw [HDD.out]
      have hls : D.2.1 = (q5.1, q6.1) := by rw [HDD.out]
      have HFI := Lib.hid hfin
      have HSTT := Lib.hid hst
      have HLS := Lib.hid hls
      have SZ := Lib.hid (sz_lt l7 HI7.out)
      have ONE := Lib.hid (one_ltC l7 (by rw [hfin]; rfl) (by rw [hfin]; rfl))
      have HLE := Lib.hid (show (ltC zeroL).length = (ltC l7).length by rw [length_ltC zeroL rfl, length_ltC l7 HI7.out])
      clear hfin hst hls
      go_wp2_with (first
        | (refine wp_load_mem HM2.out Tlt (.tmp 3) _ rfl rfl rfl Try.underlying26 rfl SZ.out ?_)
        | (refine wp_store_gen (B := 0) (w0 := (w7.setCell ⟨W.heap.size + 1, 39, none⟩ (.slice a7 q6.1.length c7))) (Below.refl _ _) (Nat.zero_le _) HM1.out (ltC l7) Tlt (.tmp 2) (.tmp 43) rfl rfl rfl rfl SZ.out HLE.out ONE.out ?_
           intro Z9 hm9 hb9 hsz9 ho9
           have HM9 := Lib.hid hm9
           have HB9 := Lib.hid (show BM Z9 g q6.2 from (ho9 g (by omega)).trans HQB.out)
           have HG9 := Lib.hid (show W.grownBy Z9 (some g) from ⟨hb9.os.trans HG7.out.os, hb9.tape.trans HG7.out.tape, hb9.output.trans HG7.out.output, by omega, fun k hk hne => (ho9 k (by omega)).trans (HG7.out.block k hk hne)⟩)
           have HZ6 := Lib.hid (show Owns Z9 W.heap.size Tii (.slice a6 q5.1.length c6) (q5.1.map fun k => Value.int .i64 k) from Owns.rebase hsz5 (HO6n.out.of_below fun b hb => ho9 b (by have := (HO6n.out.lt b hb).2; omega)))
           have HZ7 := Lib.hid (show Owns Z9 W.heap.size Tii (.slice a7 q6.1.length c7) (q6.1.map fun k => Value.int .i64 k) from Owns.rebase hsz6 (HO7.out.of_below fun b hb => ho9 b (by have := (HO7.out.lt b hb).2; omega)))
           clear hm9 hb9 hsz9 ho9)
        | fail)
      refine bodyPost_ret (results_mem HM9.out rfl _ _ rfl Try.underlying26 rfl SZ.out) rfl ⟨(.slice a6 q5.1.length c6), (.slice a7 q6.1.length c7), ?_, ?_, ?_, ?_, HG9.out⟩
      · rw [HFI.out]
      · rw [HLS.out]; exact HZ6.out
      · rw [HLS.out]; exact HZ7.out
      · rw [HSTT.out]; exact HB9.out
    · rcases Bool.eq_false_or_eq_true (whatK k) with kW | kW
      · rcases Bool.eq_false_or_eq_true (textK k) with kT | kT
        · rw [kI] at HI
          rw [kL] at HLI
          rw [kW] at HWH
          rw [kT] at HTX
          have hdd : D = ({ l4 with id := (decId k s4).1, what := (decWhat k (decLists k (decId k s4).2).2).1, text := (decText k (decWhat k (decLists k (decId k s4).2).2).2).1 }, (decLists k (decId k s4).2).1, (decText k (decWhat k (decLists k (decId k s4).2).2).2).2) := by
            rw [HDW.out, HK.out]
          unfold decId decLists decWhat decText at hdd
          simp only [kI, kL, kW, kT, if_true, Bool.false_eq_true, if_false] at hdd
          have HDD := Lib.hid hdd
          clear hdd kI kL kW kT HDW
          refine (HI.out _).mono ?_
          rintro e w ⟨rfl, rfl⟩
          have HC := Lib.hid (idB_any V4 g s4 HQB.out (by omega))
          obtain ⟨x5, hx5⟩ : ∃ x, x = nameOf (bytesS s4 32).2 := ⟨_, rfl⟩
          obtain ⟨s5, hs5⟩ : ∃ s, s = (bytesS s4 32).1 := ⟨_, rfl⟩
          rw [← hx5, ← hs5] at HC HDD
          have hxl : x5.length = 32 := by rw [hx5]; exact length_nameOf _
          have SZ5 := Lib.hid (sz_id x5 hxl)
          have ONE5 := Lib.hid (oneBytes x5)
          obtain ⟨l5, hl5⟩ : ∃ l : LV, l = { l4 with id := x5 } := ⟨_, rfl⟩
          have HST := Lib.hid (ltC_id l4 HI4.out x5 hxl)
          rw [← hl5] at HST
          have HL5 := Lib.hid hl5
          have HI5 : Hid (l5.id.length = 32) := Lib.hid (by rw [hl5]; exact hxl)
          have HLN := Lib.hid (show 4 + (x5.map byteV).length ≤ (ltC l4).length by rw [length_ltC l4 HI4.out, List.length_map, hxl]; omega)
          clear hx5 hs5 hl5 hxl
          go_wp2_with fail
          refine HC.out.mono ?_
          rintro e w5 ⟨rfl, hb5, hg5⟩
          have hN1 := Mem.grown HM1.out hg5 (fun e => by injection e with e; omega)
          have HN2 := Lib.hid (Mem.grown HM2.out hg5 (fun e => by injection e with e; omega))
          have HN1 := Lib.hid hN1
          have HNB := Lib.hid hb5
          have HNG := Lib.hid (grown_thn HG4.out hg5)
          clear hN1 hb5 hg5 hk2 HC
          go_wp2_with (first
            | (refine wp_store_row2 HN2.out (x5.map byteV) Ti (.tmp 21) (.tmp 20) rfl rfl rfl rfl SZ5.out HLN.out ONE5.out ?_
               intro V5 hm5 hg5
               rw [HST.out] at hm5
               have hP1 : Mem V5 W.heap.size Tlt (ltC zeroL) := Mem.grown HN1.out hg5 (fun e => by injection e with e; omega)
               have hPB : BM V5 g s5 := Mem.grown HNB.out hg5 (fun e => by injection e with e; omega)
               have hPG : W.grownBy V5 (some g) := ⟨hg5.os.trans HNG.out.os, hg5.tape.trans HNG.out.tape, hg5.output.trans HNG.out.output, Nat.le_trans HNG.out.size hg5.size, fun b hb hne => (hg5.block b (Nat.lt_of_lt_of_le hb HNG.out.size) (fun e => by injection e with e; omega)).trans (HNG.out.block b hb hne)⟩
               have hk5 : V5.cell? ⟨W.heap.size + 1, 0, none⟩ = some (.int .i64 k) := by
                 rw [HK.out, show l4.kind = l5.kind by rw [HL5.out]]
                 exact hm5.cell 0
               clear HM1 HM2 HQB
               have HM2 := Lib.hid hm5
               have HM1 := Lib.hid hP1
               have HQB := Lib.hid hPB
               have HG5 := Lib.hid hPG
               clear hm5 hg5 hP1 hPB hPG HN1 HN2 HNB HNG)
            | fail)
          have hlM5 := HM2.out.lt
          have hsz5 := HG5.out.size
          refine (HLI.out _).mono ?_
          rintro e w ⟨rfl, rfl⟩
          go_wp2_with fail
          refine (HWH.out _).mono ?_
          rintro e w ⟨rfl, rfl⟩
          have HC := Lib.hid (intB_any V5 g s5 3 HQB.out (by omega) (by omega))
          obtain ⟨x6, hx6⟩ : ∃ x : Nat, x = (intS s5 3).2 := ⟨_, rfl⟩
          obtain ⟨s6, hs6⟩ : ∃ s, s = (intS s5 3).1 := ⟨_, rfl⟩
          rw [← hx6, ← hs6] at HC HDD
          clear hx6 hs6
          go_wp2_with fail
          refine HC.out.mono ?_
          rintro e w6 ⟨rfl, hb6, hg6⟩
          have hN1 := Mem.grown HM1.out hg6 (fun e => by injection e with e; omega)
          have hN2 := Mem.grown HM2.out hg6 (fun e => by injection e with e; omega)
          have c36 := (lt_cells hN2 HI5.out).2.1
          have z36 := hN2.frozen 36
          have hP2 := hN2.set 36 (.int .i64 (x6 : Int))
          rw [ltC_what l5 HI5.out] at hP2
          obtain ⟨l6, hl6⟩ : ∃ l : LV, l = { l5 with what := (x6 : Int) } := ⟨_, rfl⟩
          rw [← hl6] at hP2
          have hP1 := hN1.other (p := ⟨W.heap.size + 1, 36, none⟩) (by simp only; omega) (.int .i64 (x6 : Int))
          have hPB : BM (w6.setCell ⟨W.heap.size + 1, 36, none⟩ (.int .i64 (x6 : Int))) g s6 := Mem.other hb6 (by simp only; omega) _
          have HG6 := Lib.hid (grown_set (grown_thn HG5.out hg6) (W.heap.size + 1) 36 (.int .i64 (x6 : Int)) (by omega))
          have HL6 := Lib.hid hl6
          have HI6 : Hid (l6.id.length = 32) := Lib.hid (by rw [hl6]; exact HI5.out)
          have hk6 : (w6.setCell ⟨W.heap.size + 1, 36, none⟩ (.int .i64 (x6 : Int))).cell? ⟨W.heap.size + 1, 0, none⟩ = some (.int .i64 k) := by
            rw [HK.out, show l4.kind = l6.kind by rw [HL6.out, HL5.out]]
            exact hP2.cell 0
          clear HM1 HM2 HQB
          have HM1 := Lib.hid hP1
          have HM2 := Lib.hid hP2
          have HQB := Lib.hid hPB
          have hsz6 := HG6.out.size
          have hlM6 := HM2.out.lt
          clear hN1 hN2 hP1 hP2 hPB hb6 hg6 hl6 HC hk5
          go_wp2_with fail
          refine (HTX.out _).mono ?_
          rintro e w ⟨rfl, rfl⟩
          have HC := Lib.hid (strB_any _ g s6 512 HQB.out (by omega) (by omega))
          obtain ⟨x7, hx7⟩ : ∃ x, x = (strS s6 512).2 := ⟨_, rfl⟩
          obtain ⟨s7, hs7⟩ : ∃ s, s = (strS s6 512).1 := ⟨_, rfl⟩
          rw [← hx7, ← hs7] at HC HDD
          clear hx7 hs7
          go_wp2_with fail
          refine HC.out.mono ?_
          rintro e w7 ⟨rfl, hb7, hg7⟩
          have hN1 := Mem.grown HM1.out hg7 (fun e => by injection e with e; omega)
          have hN2 := Mem.grown HM2.out hg7 (fun e => by injection e with e; omega)
          have c37 := (lt_cells hN2 HI6.out).2.2.1
          have z37 := hN2.frozen 37
          have hP2 := hN2.set 37 (tx x7)
          rw [ltC_text l6 HI6.out] at hP2
          change Mem (w7.setCell ⟨W.heap.size + 1, 37, none⟩ (.string (str x7))) (W.heap.size + 1) Tlt _ at hP2
          obtain ⟨l7, hl7⟩ : ∃ l : LV, l = { l6 with text := x7 } := ⟨_, rfl⟩
          rw [← hl7] at hP2
          have hP1 := hN1.other (p := ⟨W.heap.size + 1, 37, none⟩) (by simp only; omega) (.string (str x7))
          have hPB : BM (w7.setCell ⟨W.heap.size + 1, 37, none⟩ (.string (str x7))) g s7 := Mem.other hb7 (by simp only; omega) _
          have HG7 := Lib.hid (grown_set (grown_thn HG6.out hg7) (W.heap.size + 1) 37 (.string (str x7)) (by omega))
          have HL7 := Lib.hid hl7
          have HI7 : Hid (l7.id.length = 32) := Lib.hid (by rw [hl7]; exact HI6.out)
          clear HM1 HM2 HQB
          have HM1 := Lib.hid hP1
          have HM2 := Lib.hid hP2
          have HQB := Lib.hid hPB
          have hsz7 := HG7.out.size
          have hlM7 := HM2.out.lt
          clear hN1 hN2 hP1 hP2 hPB hb7 hg7 hl7 HC hk6
          have hfin : l7 = { D.1 with pv := (.slice none 0 0), hv := (.slice none 0 0) } := by
            rw [HDD.out, HL7.out, HL6.out, HL5.out]
            obtain ⟨h1, h2, h3, h4, h5⟩ := HL0.out
            cases l4
            simp only at h1 h2 h3 h4 h5
            subst h1 h2 h3 h4 h5
            rfl
          have hst : D.2.2 = s7 := by rw [HDD.out]
          have hls : D.2.1 = (([] : List Int), ([] : List Int)) := by rw [HDD.out]
          have HFI := Lib.hid hfin
          have HSTT := Lib.hid hst
          have HLS := Lib.hid hls
          have SZ := Lib.hid (sz_lt l7 HI7.out)
          have ONE := Lib.hid (one_ltC l7 (by rw [hfin]; rfl) (by rw [hfin]; rfl))
          have HLE := Lib.hid (show (ltC zeroL).length = (ltC l7).length by rw [length_ltC zeroL rfl, length_ltC l7 HI7.out])
          clear hfin hst hls
          go_wp2_with (first
            | (refine wp_load_mem HM2.out Tlt (.tmp 3) _ rfl rfl rfl Try.underlying26 rfl SZ.out ?_)
            | (refine wp_store_gen (B := 0) (w0 := (w7.setCell ⟨W.heap.size + 1, 37, none⟩ (.string (str x7)))) (Below.refl _ _) (Nat.zero_le _) HM1.out (ltC l7) Tlt (.tmp 2) (.tmp 43) rfl rfl rfl rfl SZ.out HLE.out ONE.out ?_
               intro Z9 hm9 hb9 hsz9 ho9
               have HM9 := Lib.hid hm9
               have HB9 := Lib.hid (show BM Z9 g s7 from (ho9 g (by omega)).trans HQB.out)
               have HG9 := Lib.hid (show W.grownBy Z9 (some g) from ⟨hb9.os.trans HG7.out.os, hb9.tape.trans HG7.out.tape, hb9.output.trans HG7.out.output, by omega, fun k hk hne => (ho9 k (by omega)).trans (HG7.out.block k hk hne)⟩)
               clear hm9 hb9 hsz9 ho9)
            | fail)
          refine bodyPost_ret (results_mem HM9.out rfl _ _ rfl Try.underlying26 rfl SZ.out) rfl ⟨(.slice none 0 0), (.slice none 0 0), ?_, ?_, ?_, ?_, HG9.out⟩
          · rw [HFI.out]
          · rw [HLS.out]; exact Owns.nil _ _ _
          · rw [HLS.out]; exact Owns.nil _ _ _
          · rw [HSTT.out]; exact HB9.out
        · rw [kI] at HI
          rw [kL] at HLI
          rw [kW] at HWH
          rw [kT] at HTX
          have hdd : D = ({ l4 with id := (decId k s4).1, what := (decWhat k (decLists k (decId k s4).2).2).1, text := (decText k (decWhat k (decLists k (decId k s4).2).2).2).1 }, (decLists k (decId k s4).2).1, (decText k (decWhat k (decLists k (decId k s4).2).2).2).2) := by
            rw [HDW.out, HK.out]
          unfold decId decLists decWhat decText at hdd
          simp only [kI, kL, kW, kT, if_true, Bool.false_eq_true, if_false] at hdd
          have HDD := Lib.hid hdd
          clear hdd kI kL kW kT HDW
          refine (HI.out _).mono ?_
          rintro e w ⟨rfl, rfl⟩
          have HC := Lib.hid (idB_any V4 g s4 HQB.out (by omega))
          obtain ⟨x5, hx5⟩ : ∃ x, x = nameOf (bytesS s4 32).2 := ⟨_, rfl⟩
          obtain ⟨s5, hs5⟩ : ∃ s, s = (bytesS s4 32).1 := ⟨_, rfl⟩
          rw [← hx5, ← hs5] at HC HDD
          have hxl : x5.length = 32 := by rw [hx5]; exact length_nameOf _
          have SZ5 := Lib.hid (sz_id x5 hxl)
          have ONE5 := Lib.hid (oneBytes x5)
          obtain ⟨l5, hl5⟩ : ∃ l : LV, l = { l4 with id := x5 } := ⟨_, rfl⟩
          have HST := Lib.hid (ltC_id l4 HI4.out x5 hxl)
          rw [← hl5] at HST
          have HL5 := Lib.hid hl5
          have HI5 : Hid (l5.id.length = 32) := Lib.hid (by rw [hl5]; exact hxl)
          have HLN := Lib.hid (show 4 + (x5.map byteV).length ≤ (ltC l4).length by rw [length_ltC l4 HI4.out, List.length_map, hxl]; omega)
          clear hx5 hs5 hl5 hxl
          go_wp2_with fail
          refine HC.out.mono ?_
          rintro e w5 ⟨rfl, hb5, hg5⟩
          have hN1 := Mem.grown HM1.out hg5 (fun e => by injection e with e; omega)
          have HN2 := Lib.hid (Mem.grown HM2.out hg5 (fun e => by injection e with e; omega))
          have HN1 := Lib.hid hN1
          have HNB := Lib.hid hb5
          have HNG := Lib.hid (grown_thn HG4.out hg5)
          clear hN1 hb5 hg5 hk2 HC
          go_wp2_with (first
            | (refine wp_store_row2 HN2.out (x5.map byteV) Ti (.tmp 21) (.tmp 20) rfl rfl rfl rfl SZ5.out HLN.out ONE5.out ?_
               intro V5 hm5 hg5
               rw [HST.out] at hm5
               have hP1 : Mem V5 W.heap.size Tlt (ltC zeroL) := Mem.grown HN1.out hg5 (fun e => by injection e with e; omega)
               have hPB : BM V5 g s5 := Mem.grown HNB.out hg5 (fun e => by injection e with e; omega)
               have hPG : W.grownBy V5 (some g) := ⟨hg5.os.trans HNG.out.os, hg5.tape.trans HNG.out.tape, hg5.output.trans HNG.out.output, Nat.le_trans HNG.out.size hg5.size, fun b hb hne => (hg5.block b (Nat.lt_of_lt_of_le hb HNG.out.size) (fun e => by injection e with e; omega)).trans (HNG.out.block b hb hne)⟩
               have hk5 : V5.cell? ⟨W.heap.size + 1, 0, none⟩ = some (.int .i64 k) := by
                 rw [HK.out, show l4.kind = l5.kind by rw [HL5.out]]
                 exact hm5.cell 0
               clear HM1 HM2 HQB
               have HM2 := Lib.hid hm5
               have HM1 := Lib.hid hP1
               have HQB := Lib.hid hPB
               have HG5 := Lib.hid hPG
               clear hm5 hg5 hP1 hPB hPG HN1 HN2 HNB HNG)
            | fail)
          have hlM5 := HM2.out.lt
          have hsz5 := HG5.out.size
          refine (HLI.out _).mono ?_
          rintro e w ⟨rfl, rfl⟩
          go_wp2_with fail
          refine (HWH.out _).mono ?_
          rintro e w ⟨rfl, rfl⟩
          have HC := Lib.hid (intB_any V5 g s5 3 HQB.out (by omega) (by omega))
          obtain ⟨x6, hx6⟩ : ∃ x : Nat, x = (intS s5 3).2 := ⟨_, rfl⟩
          obtain ⟨s6, hs6⟩ : ∃ s, s = (intS s5 3).1 := ⟨_, rfl⟩
          rw [← hx6, ← hs6] at HC HDD
          clear hx6 hs6
          go_wp2_with fail
          refine HC.out.mono ?_
          rintro e w6 ⟨rfl, hb6, hg6⟩
          have hN1 := Mem.grown HM1.out hg6 (fun e => by injection e with e; omega)
          have hN2 := Mem.grown HM2.out hg6 (fun e => by injection e with e; omega)
          have c36 := (lt_cells hN2 HI5.out).2.1
          have z36 := hN2.frozen 36
          have hP2 := hN2.set 36 (.int .i64 (x6 : Int))
          rw [ltC_what l5 HI5.out] at hP2
          obtain ⟨l6, hl6⟩ : ∃ l : LV, l = { l5 with what := (x6 : Int) } := ⟨_, rfl⟩
          rw [← hl6] at hP2
          have hP1 := hN1.other (p := ⟨W.heap.size + 1, 36, none⟩) (by simp only; omega) (.int .i64 (x6 : Int))
          have hPB : BM (w6.setCell ⟨W.heap.size + 1, 36, none⟩ (.int .i64 (x6 : Int))) g s6 := Mem.other hb6 (by simp only; omega) _
          have HG6 := Lib.hid (grown_set (grown_thn HG5.out hg6) (W.heap.size + 1) 36 (.int .i64 (x6 : Int)) (by omega))
          have HL6 := Lib.hid hl6
          have HI6 : Hid (l6.id.length = 32) := Lib.hid (by rw [hl6]; exact HI5.out)
          have hk6 : (w6.setCell ⟨W.heap.size + 1, 36, none⟩ (.int .i64 (x6 : Int))).cell? ⟨W.heap.size + 1, 0, none⟩ = some (.int .i64 k) := by
            rw [HK.out, show l4.kind = l6.kind by rw [HL6.out, HL5.out]]
            exact hP2.cell 0
          clear HM1 HM2 HQB
          have HM1 := Lib.hid hP1
          have HM2 := Lib.hid hP2
          have HQB := Lib.hid hPB
          have hsz6 := HG6.out.size
          have hlM6 := HM2.out.lt
          clear hN1 hN2 hP1 hP2 hPB hb6 hg6 hl6 HC hk5
          go_wp2_with fail
          refine (HTX.out _).mono ?_
          rintro e w ⟨rfl, rfl⟩
          have hfin : l6 = { D.1 with pv := (.slice none 0 0), hv := (.slice none 0 0) } := by
            rw [HDD.out, HL6.out, HL5.out]
            obtain ⟨h1, h2, h3, h4, h5⟩ := HL0.out
            cases l4
            simp only at h1 h2 h3 h4 h5
            subst h1 h2 h3 h4 h5
            rfl
          have hst : D.2.2 = s6 := by rw [HDD.out]
          have hls : D.2.1 = (([] : List Int), ([] : List Int)) := by rw [HDD.out]
          have HFI := Lib.hid hfin
          have HSTT := Lib.hid hst
          have HLS := Lib.hid hls
          have SZ := Lib.hid (sz_lt l6 HI6.out)
          have ONE := Lib.hid (one_ltC l6 (by rw [hfin]; rfl) (by rw [hfin]; rfl))
          have HLE := Lib.hid (show (ltC zeroL).length = (ltC l6).length by rw [length_ltC zeroL rfl, length_ltC l6 HI6.out])
          clear hfin hst hls
          go_wp2_with (first
            | (refine wp_load_mem HM2.out Tlt (.tmp 3) _ rfl rfl rfl Try.underlying26 rfl SZ.out ?_)
            | (refine wp_store_gen (B := 0) (w0 := (w6.setCell ⟨W.heap.size + 1, 36, none⟩ (.int .i64 (x6 : Int)))) (Below.refl _ _) (Nat.zero_le _) HM1.out (ltC l6) Tlt (.tmp 2) (.tmp 43) rfl rfl rfl rfl SZ.out HLE.out ONE.out ?_
               intro Z9 hm9 hb9 hsz9 ho9
               have HM9 := Lib.hid hm9
               have HB9 := Lib.hid (show BM Z9 g s6 from (ho9 g (by omega)).trans HQB.out)
               have HG9 := Lib.hid (show W.grownBy Z9 (some g) from ⟨hb9.os.trans HG6.out.os, hb9.tape.trans HG6.out.tape, hb9.output.trans HG6.out.output, by omega, fun k hk hne => (ho9 k (by omega)).trans (HG6.out.block k hk hne)⟩)
               clear hm9 hb9 hsz9 ho9)
            | fail)
          refine bodyPost_ret (results_mem HM9.out rfl _ _ rfl Try.underlying26 rfl SZ.out) rfl ⟨(.slice none 0 0), (.slice none 0 0), ?_, ?_, ?_, ?_, HG9.out⟩
          · rw [HFI.out]
          · rw [HLS.out]; exact Owns.nil _ _ _
          · rw [HLS.out]; exact Owns.nil _ _ _
          · rw [HSTT.out]; exact HB9.out
      · have kT := no_what kW
        rw [kI] at HI
        rw [kL] at HLI
        rw [kW] at HWH
        rw [kT] at HTX
        have hdd : D = ({ l4 with id := (decId k s4).1, what := (decWhat k (decLists k (decId k s4).2).2).1, text := (decText k (decWhat k (decLists k (decId k s4).2).2).2).1 }, (decLists k (decId k s4).2).1, (decText k (decWhat k (decLists k (decId k s4).2).2).2).2) := by
          rw [HDW.out, HK.out]
        unfold decId decLists decWhat decText at hdd
        simp only [kI, kL, kW, kT, if_true, Bool.false_eq_true, if_false] at hdd
        have HDD := Lib.hid hdd
        clear hdd kI kL kW kT HDW
        refine (HI.out _).mono ?_
        rintro e w ⟨rfl, rfl⟩
        have HC := Lib.hid (idB_any V4 g s4 HQB.out (by omega))
        obtain ⟨x5, hx5⟩ : ∃ x, x = nameOf (bytesS s4 32).2 := ⟨_, rfl⟩
        obtain ⟨s5, hs5⟩ : ∃ s, s = (bytesS s4 32).1 := ⟨_, rfl⟩
        rw [← hx5, ← hs5] at HC HDD
        have hxl : x5.length = 32 := by rw [hx5]; exact length_nameOf _
        have SZ5 := Lib.hid (sz_id x5 hxl)
        have ONE5 := Lib.hid (oneBytes x5)
        obtain ⟨l5, hl5⟩ : ∃ l : LV, l = { l4 with id := x5 } := ⟨_, rfl⟩
        have HST := Lib.hid (ltC_id l4 HI4.out x5 hxl)
        rw [← hl5] at HST
        have HL5 := Lib.hid hl5
        have HI5 : Hid (l5.id.length = 32) := Lib.hid (by rw [hl5]; exact hxl)
        have HLN := Lib.hid (show 4 + (x5.map byteV).length ≤ (ltC l4).length by rw [length_ltC l4 HI4.out, List.length_map, hxl]; omega)
        clear hx5 hs5 hl5 hxl
        go_wp2_with fail
        refine HC.out.mono ?_
        rintro e w5 ⟨rfl, hb5, hg5⟩
        have hN1 := Mem.grown HM1.out hg5 (fun e => by injection e with e; omega)
        have HN2 := Lib.hid (Mem.grown HM2.out hg5 (fun e => by injection e with e; omega))
        have HN1 := Lib.hid hN1
        have HNB := Lib.hid hb5
        have HNG := Lib.hid (grown_thn HG4.out hg5)
        clear hN1 hb5 hg5 hk2 HC
        go_wp2_with (first
          | (refine wp_store_row2 HN2.out (x5.map byteV) Ti (.tmp 21) (.tmp 20) rfl rfl rfl rfl SZ5.out HLN.out ONE5.out ?_
             intro V5 hm5 hg5
             rw [HST.out] at hm5
             have hP1 : Mem V5 W.heap.size Tlt (ltC zeroL) := Mem.grown HN1.out hg5 (fun e => by injection e with e; omega)
             have hPB : BM V5 g s5 := Mem.grown HNB.out hg5 (fun e => by injection e with e; omega)
             have hPG : W.grownBy V5 (some g) := ⟨hg5.os.trans HNG.out.os, hg5.tape.trans HNG.out.tape, hg5.output.trans HNG.out.output, Nat.le_trans HNG.out.size hg5.size, fun b hb hne => (hg5.block b (Nat.lt_of_lt_of_le hb HNG.out.size) (fun e => by injection e with e; omega)).trans (HNG.out.block b hb hne)⟩
             have hk5 : V5.cell? ⟨W.heap.size + 1, 0, none⟩ = some (.int .i64 k) := by
               rw [HK.out, show l4.kind = l5.kind by rw [HL5.out]]
               exact hm5.cell 0
             clear HM1 HM2 HQB
             have HM2 := Lib.hid hm5
             have HM1 := Lib.hid hP1
             have HQB := Lib.hid hPB
             have HG5 := Lib.hid hPG
             clear hm5 hg5 hP1 hPB hPG HN1 HN2 HNB HNG)
          | fail)
        have hlM5 := HM2.out.lt
        have hsz5 := HG5.out.size
        refine (HLI.out _).mono ?_
        rintro e w ⟨rfl, rfl⟩
        go_wp2_with fail
        refine (HWH.out _).mono ?_
        rintro e w ⟨rfl, rfl⟩
        go_wp2_with fail
        refine (HTX.out _).mono ?_
        rintro e w ⟨rfl, rfl⟩
        have hfin : l5 = { D.1 with pv := (.slice none 0 0), hv := (.slice none 0 0) } := by
          rw [HDD.out, HL5.out]
          obtain ⟨h1, h2, h3, h4, h5⟩ := HL0.out
          cases l4
          simp only at h1 h2 h3 h4 h5
          subst h1 h2 h3 h4 h5
          rfl
        have hst : D.2.2 = s5 := by rw [HDD.out]
        have hls : D.2.1 = (([] : List Int), ([] : List Int)) := by rw [HDD.out]
        have HFI := Lib.hid hfin
        have HSTT := Lib.hid hst
        have HLS := Lib.hid hls
        have SZ := Lib.hid (sz_lt l5 HI5.out)
        have ONE := Lib.hid (one_ltC l5 (by rw [hfin]; rfl) (by rw [hfin]; rfl))
        have HLE := Lib.hid (show (ltC zeroL).length = (ltC l5).length by rw [length_ltC zeroL rfl, length_ltC l5 HI5.out])
        clear hfin hst hls
        go_wp2_with (first
          | (refine wp_load_mem HM2.out Tlt (.tmp 3) _ rfl rfl rfl Try.underlying26 rfl SZ.out ?_)
          | (refine wp_store_gen (B := 0) (w0 := V5) (Below.refl _ _) (Nat.zero_le _) HM1.out (ltC l5) Tlt (.tmp 2) (.tmp 43) rfl rfl rfl rfl SZ.out HLE.out ONE.out ?_
             intro Z9 hm9 hb9 hsz9 ho9
             have HM9 := Lib.hid hm9
             have HB9 := Lib.hid (show BM Z9 g s5 from (ho9 g (by omega)).trans HQB.out)
             have HG9 := Lib.hid (show W.grownBy Z9 (some g) from ⟨hb9.os.trans HG5.out.os, hb9.tape.trans HG5.out.tape, hb9.output.trans HG5.out.output, by omega, fun k hk hne => (ho9 k (by omega)).trans (HG5.out.block k hk hne)⟩)
             clear hm9 hb9 hsz9 ho9)
          | fail)
        refine bodyPost_ret (results_mem HM9.out rfl _ _ rfl Try.underlying26 rfl SZ.out) rfl ⟨(.slice none 0 0), (.slice none 0 0), ?_, ?_, ?_, ?_, HG9.out⟩
        · rw [HFI.out]
        · rw [HLS.out]; exact Owns.nil _ _ _
        · rw [HLS.out]; exact Owns.nil _ _ _
        · rw [HSTT.out]; exact HB9.out
  · obtain ⟨kL, kW, kT⟩ := no_id kI
    rw [kI] at HI
    rw [kL] at HLI
    rw [kW] at HWH
    rw [kT] at HTX
    have hdd : D = ({ l4 with id := (decId k s4).1, what := (decWhat k (decLists k (decId k s4).2).2).1, text := (decText k (decWhat k (decLists k (decId k s4).2).2).2).1 }, (decLists k (decId k s4).2).1, (decText k (decWhat k (decLists k (decId k s4).2).2).2).2) := by
      rw [HDW.out, HK.out]
    unfold decId decLists decWhat decText at hdd
    simp only [kI, kL, kW, kT, Bool.false_eq_true, if_false] at hdd
    have HDD := Lib.hid hdd
    clear hdd kI kL kW kT HDW
    refine (HI.out _).mono ?_
    rintro e w ⟨rfl, rfl⟩
    go_wp2_with fail
    refine (HLI.out _).mono ?_
    rintro e w ⟨rfl, rfl⟩
    go_wp2_with fail
    refine (HWH.out _).mono ?_
    rintro e w ⟨rfl, rfl⟩
    go_wp2_with fail
    refine (HTX.out _).mono ?_
    rintro e w ⟨rfl, rfl⟩
    have hfin : l4 = { D.1 with pv := (.slice none 0 0), hv := (.slice none 0 0) } := by
      rw [HDD.out]
      obtain ⟨h1, h2, h3, h4, h5⟩ := HL0.out
      cases l4
      simp only at h1 h2 h3 h4 h5
      subst h1 h2 h3 h4 h5
      rfl
    have hst : D.2.2 = s4 := by rw [HDD.out]
    have hls : D.2.1 = (([] : List Int), ([] : List Int)) := by rw [HDD.out]
    have HFI := Lib.hid hfin
    have HSTT := Lib.hid hst
    have HLS := Lib.hid hls
    have SZ := Lib.hid (sz_lt l4 HI4.out)
    have ONE := Lib.hid (one_ltC l4 (by rw [hfin]; rfl) (by rw [hfin]; rfl))
    have HLE := Lib.hid (show (ltC zeroL).length = (ltC l4).length by rw [length_ltC zeroL rfl, length_ltC l4 HI4.out])
    clear hfin hst hls
    go_wp2_with (first
      | (refine wp_load_mem HM2.out Tlt (.tmp 3) _ rfl rfl rfl Try.underlying26 rfl SZ.out ?_)
      | (refine wp_store_gen (B := 0) (w0 := V4) (Below.refl _ _) (Nat.zero_le _) HM1.out (ltC l4) Tlt (.tmp 2) (.tmp 43) rfl rfl rfl rfl SZ.out HLE.out ONE.out ?_
         intro Z9 hm9 hb9 hsz9 ho9
         have HM9 := Lib.hid hm9
         have HB9 := Lib.hid (show BM Z9 g s4 from (ho9 g (by omega)).trans HQB.out)
         have HG9 := Lib.hid (show W.grownBy Z9 (some g) from ⟨hb9.os.trans HG4.out.os, hb9.tape.trans HG4.out.tape, hb9.output.trans HG4.out.output, by omega, fun k hk hne => (ho9 k (by omega)).trans (HG4.out.block k hk hne)⟩)
         clear hm9 hb9 hsz9 ho9)
      | fail)
    refine bodyPost_ret (results_mem HM9.out rfl _ _ rfl Try.underlying26 rfl SZ.out) rfl ⟨(.slice none 0 0), (.slice none 0 0), ?_, ?_, ?_, ?_, HG9.out⟩
    · rw [HFI.out]
    · rw [HLS.out]; exact Owns.nil _ _ _
    · rw [HLS.out]; exact Owns.nil _ _ _
    · rw [HSTT.out]; exact HB9.out
end Go.Proofs.Ytbkknhlagohhhaa
