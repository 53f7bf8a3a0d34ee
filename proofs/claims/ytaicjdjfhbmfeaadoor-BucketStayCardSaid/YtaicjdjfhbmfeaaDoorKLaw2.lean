/-
  BucketFull: the walk.
-/
import Derived.Test.YtaicjdjfhbmfeaaDoorKLaw1
import Derived.Test.YtaicjdjfhbmfeaaDoorBktA
namespace Go.Proofs.YtaicjdjfhbmfeaaDoor
open Go.RowKit Crv

theorem mem_sorted (l : List Int) (n : Int) : n ∈ sorted l ↔ n ∈ l := (List.mergeSort_perm l _).mem_iff
theorem filter_sorted (l : List Int) (p : Int → Bool) : ((sorted l).filter p).length = (l.filter p).length := ((List.mergeSort_perm l _).filter p).length_eq
/-- How many of the first k lie in each row. -/
def rowsN (x : BS) (L : List Int) (k : Nat) : Nat → Nat := fun j => ((L.take k).filter fun n => decide (rowB x n = j)).length
theorem rowsN_succ (x : BS) (L : List Int) (k : Nat) (h : k < L.length) : rowsN x L (k + 1) = fun i => if i = rowB x (L.getD k 0) then rowsN x L k (rowB x (L.getD k 0)) + 1 else rowsN x L k i := by
  funext i
  unfold rowsN
  rw [List.take_succ_eq_append_getElem h, List.filter_append, List.length_append, List.getD_eq_getElem?_getD, List.getElem?_eq_getElem h]
  by_cases e : i = rowB x L[k]
  · subst e
    simp
  · have e' : ¬ rowB x L[k] = i := fun q => e q.symm
    simp [e, e']
theorem rowsN_le (x : BS) (L : List Int) (k j : Nat) : rowsN x L k j ≤ (L.filter fun n => decide (rowB x n = j)).length :=
  ((List.take_sublist k L).filter _).length_le
theorem BT.addNew {W0 w w' : World} {S : List Nat} {tb : Nat} {x : BS} (h : BT W0 S tb x w) (hb : Below w.heap.size w w') (hs : w.heap.size < w'.heap.size) : BT W0 (w.heap.size :: S) tb x w' := by
  have h1 := h.on hb
  refine ⟨(h.b.mono (F' := Ex W0.heap.size (w.heap.size :: S)) fun b hlt hF => ⟨hF.1, fun hs => ?_⟩).below hb, h1.below, h1.c, h1.inv, fun s hs' => ?_, h.gb⟩
  · rcases List.mem_cons.1 hs with e | hs
    · omega
    · exact hF.2 hs
  · rcases List.mem_cons.1 hs' with e | hs'
    · rw [e]; exact hs
    · exact h1.s s hs'
theorem okA_rowB {x : BS} (h : Inv x) {n : Int} (hm : n ∈ sorted (allB x 257)) : n ≠ x.own ∧ ¬ n < 0 ∧ ¬ 63 < n ∧ knowsT x n = true := by
  rw [mem_sorted, mem_all h] at hm
  have h2 := (h.kin _ _ hm).2
  exact ⟨h2.1, by have := h2.2.1; omega, by have := h2.2.2; omega, by unfold knowsT; simpa using hm⟩
set_option maxHeartbeats 4000000 in
set_option maxRecDepth 100000 in
theorem bucketFull_walk (own : Int) (v1 : Value) (ks : List Int) (W : World) (hc : Consts W) (hks : Zs W v1 ks) :
    Calls Tryd.prog 6 #[.int .i64 own, v1] W fun e w' => e = .returned (.bool true) ∧ Below W.heap.size W w' := by
  obtain ⟨a, cap, rfl, hk0⟩ := hks
  have HKS := Lib.hid (show Zs W (.slice a ks.length cap) ks from ⟨a, cap, rfl, hk0⟩)
  have HAW := Lib.hid (awake19_any W hc)
  have HGB := Lib.hid (show 3 ≤ W.heap.size from hc.2.lt)
  have HC := Lib.hid hc
  obtain ⟨o, ho, hoo⟩ := sixty own
  clear hc hk0
  go_enter Tryd.func6, Tryd.ntmps6
  go_wp2_with fail
  refine HAW.out.mono ?_
  rintro e w1 ⟨rfl, hb1⟩
  have HN := Lib.hid (fun oo => BT.make (W0 := W) hb1 (HC.out.below hb1) HGB.out oo)
  clear hb1 HAW
  go_wp2_with fail
  refine (HN.out o).mono ?_
  rintro e w2 ⟨tb, rfl, h2⟩
  have H2 := Lib.hid h2
  clear h2 HN
  go_wp2_with fail
  go_loopw [6] (fun i wr => ∃ k : Nat, k ≤ 200 ∧ i = .int .i64 k ∧ Hid (∃ x : BS, x.own = o ∧ BT W [] tb x wr)) (fun i _ => 200 - (intOf i).toNat)
  case atStart => exact ⟨0, by omega, rfl, Lib.hid ⟨newT o, rfl, H2.out⟩⟩
  case round =>
    obtain ⟨k, hk, rfl, HX⟩ := hrel
    obtain ⟨x, hxo, hB⟩ := HX.out
    have HXO := Lib.hid hxo
    have HB := Lib.hid hB
    clear HX hxo hB H2
    by_cases hlt : k < ks.length ∧ k < 200
    · have hd1 : decide ((k : Int) < (ks.length : Int)) = true := by simp; omega
      have hd2 : decide ((k : Int) < 200) = true := by simp; omega
      obtain ⟨b, off, rfl, hkW⟩ := HKS.out.at k hlt.1
      have hl1 : (k : Int) < (ks.length : Int) := by omega
      obtain ⟨n0, hn0⟩ : ∃ n0, n0 = ks.getD k 0 := ⟨_, rfl⟩
      rw [← hn0] at hkW
      have hkc := hkW wr HB.out.below
      have HH := Lib.hid (HB.out.heard n0)
      have HO2 := Lib.hid ((heardT_own x n0).trans HXO.out)
      clear hkW hn0
      go_wp2_with fail
      refine HH.out.mono ?_
      rintro e w3 ⟨rfl, h3, -⟩
      have HR := Lib.hid (show ∃ x : BS, x.own = o ∧ BT W [] tb x w3 from ⟨_, HO2.out, h3⟩)
      clear h3 HO2 HH
      go_wp2_with fail
      go_round
      case rel => exact ⟨k + 1, by omega, by go_num, HR⟩
      case measure => simp [intOf]; omega
    · have hcase : (¬ (k : Int) < (ks.length : Int)) ∨ ((k : Int) < (ks.length : Int) ∧ ¬ (k : Int) < 200) := by omega
      obtain ⟨g, hg⟩ : ∃ g, g = wr.heap.size := ⟨_, rfl⟩
      have HM0 : Hid (BT W [g] tb x (wr.alloc (.map #[] 0)) ∧ MpK (wr.alloc (.map #[] 0)) g 0 (fun _ => 0) (fun _ => false) 0) := Lib.hid (by
        subst hg
        exact ⟨HB.out.add _, MpK.made wr⟩)
      have HWG := Lib.hid (show W.heap.size ≤ g by rw [hg]; exact HB.out.below.size)
      have HG := Lib.hid hg
      have HXA := Lib.hid (show idN o = x.a by rw [HB.out.inv.a, HXO.out])
      obtain ⟨L, hL⟩ : ∃ L, L = sorted (allB x 257) := ⟨_, rfl⟩
      have HLL := Lib.hid (show L.length ≤ 1028 by
        rw [hL, length_sorted]
        exact ys_len x HB.out.inv.k4 257)
      have HIN := Lib.hid (show ∀ n, n ∈ L → n ≠ o ∧ ¬ n < 0 ∧ ¬ 63 < n ∧ knowsT x n = true by
        intro n hn
        rw [hL] at hn
        have := okA_rowB HB.out.inv hn
        rw [HXO.out] at this
        exact this)
      have HR4 := Lib.hid (show ∀ q j, rowsN x L q j ≤ 4 by
        intro q j
        refine Nat.le_trans (rowsN_le x L q j) ?_
        rw [hL, filter_sorted]
        exact count_allB HB.out.inv j 257)
      have HAL : Hid (Calls Tryd.prog 14 #[.pointer (some ⟨tb, 0, none⟩)] (wr.alloc (.map #[] 0)) fun e w' => ∃ v, e = .returned v ∧ Owns w' (wr.alloc (.map #[] 0)).heap.size Tin v (L.map iv) ∧ BT W [g] tb x w' ∧ Below (wr.alloc (.map #[] 0)).heap.size (wr.alloc (.map #[] 0)) w') := Lib.hid (by
        rw [hL]
        exact HM0.out.1.all)
      have hmm := @run_makeMap Tryd.prog
      clear hL hg
      rcases hcase with hc1 | ⟨hc1, hc2⟩
      · have hd1 : decide ((k : Int) < (ks.length : Int)) = false := by simp; omega
        go_wp2_with fail
        clear hmm
        rw [← HG.out]
        refine HAL.out.mono ?_
        rintro e w4 ⟨v, rfl, ho4, h4, hb4⟩
        have hgs : g < (wr.alloc (.map #[] 0)).heap.size := HM0.out.2.lt
        have hff := ho4.form
        have HO4 := Lib.hid (show ∃ B, g < B ∧ Owns w4 B Tin v (L.map iv) from ⟨_, hgs, ho4⟩)
        have HM4 := Lib.hid (show MpK w4 g 0 (fun _ => 0) (fun _ => false) 0 from HM0.out.2.below hb4)
        have H4 := Lib.hid h4
        rw [List.length_map] at hff
        obtain ⟨q1, q2, rfl, -, -, -⟩ := hff
        clear ho4 h4 hb4 hgs HAL HM0
        go_wp2_with fail
        go_loopw [40] (fun i w5 => ∃ q : Nat, q ≤ L.length ∧ i = .int .i64 q ∧ Hid (BT W [g] tb x w5 ∧ (∃ B, g < B ∧ Owns w5 B Tin (.slice q1 L.length q2) (L.map iv)) ∧ ∃ h N, MpK w5 g q (rowsN x L q) h N)) (fun i _ => L.length - (intOf i).toNat)
        case atStart =>
          refine ⟨0, by omega, rfl, Lib.hid ⟨H4.out, HO4.out, fun _ => false, 0, ?_⟩⟩
          have e0 : rowsN x L 0 = fun _ => 0 := by funext j; simp [rowsN]
          rw [e0]
          exact HM4.out
        case round =>
          obtain ⟨q, hq, rfl, HX⟩ := hrel
          obtain ⟨hB5, hO5, h5, N5, hM5⟩ := HX.out
          have HB5 := Lib.hid hB5
          have HO5 := Lib.hid hO5
          have HM5 := Lib.hid hM5
          have hl28 : L.length ≤ 1028 := HLL.out
          clear HX hB5 hO5 hM5 H4 HO4 HM4 HB
          by_cases hqt : q < L.length
          · have hd3 : (q : Int) < (L.length : Int) := by omega
            obtain ⟨B, hgB, hOw⟩ := HO5.out
            obtain ⟨a6, c6, e6, -, -, hcell6⟩ := hOw.form
            injection e6 with e61 e62 e63
            obtain ⟨b6, hb6, -, hc6⟩ := hcell6 q (by rw [List.length_map]; exact hqt)
            obtain ⟨n6, hn6⟩ : ∃ n6, n6 = L.getD q 0 := ⟨_, rfl⟩
            have hmem : n6 ∈ L := by rw [hn6, List.getD_eq_getElem?_getD, List.getElem?_eq_getElem hqt]; exact List.getElem_mem hqt
            rw [List.getElem?_map, List.getElem?_eq_getElem hqt, Option.map_some, show L[q] = n6 by rw [hn6, List.getD_eq_getElem?_getD, List.getElem?_eq_getElem hqt]; rfl] at hc6
            have eq1 := e61.trans hb6
            subst eq1
            obtain ⟨g1, g2, g3, g4⟩ := HIN.out n6 hmem
            have d1 : decide (n6 = (o : Int)) = false := by simpa using g1
            have d2 : decide (n6 < 0) = false := by simpa using g2
            have d3 : decide (63 < n6) = false := by simp; omega
            have HKN := Lib.hid (HB5.out.knows n6)
            rw [g4] at HKN
            have HSU := Lib.hid (rowsN_succ x L q hqt)
            rw [← hn6] at HSU
            have HRB := Lib.hid (show rowB x n6 ≤ 256 from rowB_le x n6)
            have HSH := Lib.hid (fun (w : World) => shared_any (idN o) (idN n6) w (length_idN o) (length_idN n6))
            rw [show sharedOf (idN o) (idN n6) = rowB x n6 by rw [HXA.out]; rfl] at HSH
            have HI1 := Lib.hid (fun (w : World) (hc : Consts w) => id_any o w hc)
            have HI2 := Lib.hid (fun (w : World) (hc : Consts w) => id_any n6 w hc)
            have hr4 := HR4.out q (rowB x n6)
            obtain ⟨j, hj⟩ : ∃ j, j = rowB x n6 := ⟨_, rfl⟩
            simp only [← hj] at HSH HSU HRB hr4
            obtain ⟨d6, hd6⟩ : ∃ d6, d6 = idN n6 := ⟨_, rfl⟩
            obtain ⟨do6, hdo6⟩ : ∃ do6, do6 = idN (o : Int) := ⟨_, rfl⟩
            simp only [← hd6, ← hdo6] at HSH HI1 HI2
            have d4 : (n6 == (o : Int)) = false := by simpa using g1
            clear hj hd6 hdo6 hmem hn6 e62 e63 hcell6 hb6 e61 g4 hgB hOw
            go_wp2_with fail
            refine HKN.out.mono ?_
            rintro e w6 ⟨rfl, h6, hb6⟩
            have H6 := Lib.hid h6
            have HB6 := Lib.hid hb6
            clear h6 hb6 HKN
            go_wp2_with fail
            refine (HI1.out w6 H6.out.c).mono ?_
            rintro e w7 ⟨rfl, hb7⟩
            have H7 := Lib.hid (H6.out.on hb7)
            have HB7 := Lib.hid (belowThen HB6.out hb7)
            clear hb7 H6 HB6 HI1
            go_wp2_with fail
            refine (HI2.out w7 H7.out.c).mono ?_
            rintro e w8 ⟨rfl, hb8⟩
            have H8 := Lib.hid (H7.out.on hb8)
            have HB8 := Lib.hid (belowThen HB7.out hb8)
            clear hb8 H7 HB7 HI2
            go_wp2_with fail
            refine (HSH.out w8).mono ?_
            rintro e w9 ⟨rfl, hb9⟩
            have H9 := Lib.hid (H8.out.on hb9)
            have HB9 := Lib.hid (belowThen HB8.out hb9)
            clear hb9 H8 HB8 HSH
            have HM9 := Lib.hid (HM5.out.below HB9.out)
            have hlk := HM9.out.mpI.look j (by have := HRB.out; omega)
            obtain ⟨w10, hup, hm10, hg10⟩ := HM9.out.put j (rowsN x L q j + 1) (by have := HRB.out; omega) (by omega) (by have := HLL.out; omega)
            rw [← HSU.out] at hm10
            have HM10 := Lib.hid hm10
            have H10 := Lib.hid (H9.out.turn (by simp) HWG.out hg10)
            have HO10 := Lib.hid (show ∃ B, g < B ∧ Owns w10 B Tin (.slice (some ⟨b6, 0, none⟩) L.length q2) (L.map iv) by
              obtain ⟨B, hgB, hOw⟩ := HO5.out
              refine ⟨B, hgB, (hOw.below HB9.out).of_below fun y hy => hg10.block y ((hOw.below HB9.out).lt y hy).1 (fun e => ?_)⟩
              injection e with e
              have := ((hOw.below HB9.out).lt y hy).2
              omega)
            rw [show ((rowsN x L q j + 1 : Nat) : Int) = (rowsN x L q j : Int) + 1 from by omega] at hup
            obtain ⟨cj, hcj⟩ : ∃ cj, cj = rowsN x L q j := ⟨_, rfl⟩
            rw [← hcj] at hlk hup hr4
            clear hm10 hg10 hcj HSU
            go_wp2_with fail
            go_round
            case rel => exact ⟨q + 1, by omega, by go_num, Lib.hid ⟨H10.out, HO10.out, _, _, HM10.out⟩⟩
            case measure => simp [intOf]; omega
          · have hd3 : ¬ (q : Int) < (L.length : Int) := by omega
            have HBB := Lib.hid HB5.out.below
            obtain ⟨r, hr⟩ : ∃ r, r = wr.heap.size := ⟨_, rfl⟩
            have HRR := Lib.hid hr
            clear hr
            go_wp2_with (first
              | (at_range
                 refine wp_range_k HM5.out (.tmp 70) rfl rfl rfl ?_
                 intro w6 hrg6 hb6 hs6
                 rw [← HRR.out] at hrg6 ⊢
                 have HRG6 := Lib.hid hrg6
                 have HB6 := Lib.hid (belowThen HBB.out hb6)
                 have HWR := Lib.hid (show W.heap.size ≤ r by rw [HRR.out]; exact HBB.out.size)
                 clear hrg6 hb6 hs6)
              | fail)
            have HC4 := Lib.hid (show ∀ j, rowsN x L q j ≤ 4 from fun j => HR4.out q j)
            obtain ⟨c, hcc⟩ : ∃ c, c = rowsN x L q := ⟨_, rfl⟩
            rw [← hcc] at HC4 HRG6
            clear hcc HRR HB5 HO5 HM5 HBB
            go_loopw [11] (fun _ w7 => ∃ cnt, Hid (RgK w7 g r q c h5 cnt) ∧ Hid (Below W.heap.size W w7)) (fun _ w7 => w7.rangeLeft g r)
            case atStart => exact ⟨_, HRG6, HB6⟩
            case round =>
              obtain ⟨cnt, HRG, HBW⟩ := hrel
              clear HRG6 HB6
              go_wp2_with (first
                | (at_next; refine wp_next_k HRG.out (.tmp 71) rfl rfl rfl ?_ ?_)
                | fail)
              · go_wp2_with fail
                go_ret
                exact ⟨rfl, HBW.out⟩
              · intro j w8 cnt1 hj hrg8 hlt8 hg8 hen
                have hc4 := HC4.out j
                have hc5 : ¬ (4 : Int) < (c j : Int) := by omega
                have hc6 : decide ((4 : Int) < (c j : Int)) = false := by simpa using hc5
                have HRG8 := Lib.hid hrg8
                have HB8 := Lib.hid (show Below W.heap.size W w8 from belowNew HBW.out hg8 HWR.out)
                have HLT := Lib.hid hlt8
                clear hrg8 hlt8 hg8
                go_wp2_with fail
                go_roundw
                case rel => exact ⟨_, HRG8, HB8⟩
                case measure => rw [HRG8.out.left, HRG.out.left]; exact HLT.out
      · have hd1 : decide ((k : Int) < (ks.length : Int)) = true := by simp; omega
        have hd2 : decide ((k : Int) < 200) = false := by simp; omega
        go_wp2_with fail
        clear hmm
        rw [← HG.out]
        refine HAL.out.mono ?_
        rintro e w4 ⟨v, rfl, ho4, h4, hb4⟩
        have hgs : g < (wr.alloc (.map #[] 0)).heap.size := HM0.out.2.lt
        have hff := ho4.form
        have HO4 := Lib.hid (show ∃ B, g < B ∧ Owns w4 B Tin v (L.map iv) from ⟨_, hgs, ho4⟩)
        have HM4 := Lib.hid (show MpK w4 g 0 (fun _ => 0) (fun _ => false) 0 from HM0.out.2.below hb4)
        have H4 := Lib.hid h4
        rw [List.length_map] at hff
        obtain ⟨q1, q2, rfl, -, -, -⟩ := hff
        clear ho4 h4 hb4 hgs HAL HM0
        go_wp2_with fail
        go_loopw [40] (fun i w5 => ∃ q : Nat, q ≤ L.length ∧ i = .int .i64 q ∧ Hid (BT W [g] tb x w5 ∧ (∃ B, g < B ∧ Owns w5 B Tin (.slice q1 L.length q2) (L.map iv)) ∧ ∃ h N, MpK w5 g q (rowsN x L q) h N)) (fun i _ => L.length - (intOf i).toNat)
        case atStart =>
          refine ⟨0, by omega, rfl, Lib.hid ⟨H4.out, HO4.out, fun _ => false, 0, ?_⟩⟩
          have e0 : rowsN x L 0 = fun _ => 0 := by funext j; simp [rowsN]
          rw [e0]
          exact HM4.out
        case round =>
          obtain ⟨q, hq, rfl, HX⟩ := hrel
          obtain ⟨hB5, hO5, h5, N5, hM5⟩ := HX.out
          have HB5 := Lib.hid hB5
          have HO5 := Lib.hid hO5
          have HM5 := Lib.hid hM5
          have hl28 : L.length ≤ 1028 := HLL.out
          clear HX hB5 hO5 hM5 H4 HO4 HM4 HB
          by_cases hqt : q < L.length
          · have hd3 : (q : Int) < (L.length : Int) := by omega
            obtain ⟨B, hgB, hOw⟩ := HO5.out
            obtain ⟨a6, c6, e6, -, -, hcell6⟩ := hOw.form
            injection e6 with e61 e62 e63
            obtain ⟨b6, hb6, -, hc6⟩ := hcell6 q (by rw [List.length_map]; exact hqt)
            obtain ⟨n6, hn6⟩ : ∃ n6, n6 = L.getD q 0 := ⟨_, rfl⟩
            have hmem : n6 ∈ L := by rw [hn6, List.getD_eq_getElem?_getD, List.getElem?_eq_getElem hqt]; exact List.getElem_mem hqt
            rw [List.getElem?_map, List.getElem?_eq_getElem hqt, Option.map_some, show L[q] = n6 by rw [hn6, List.getD_eq_getElem?_getD, List.getElem?_eq_getElem hqt]; rfl] at hc6
            have eq1 := e61.trans hb6
            subst eq1
            obtain ⟨g1, g2, g3, g4⟩ := HIN.out n6 hmem
            have d1 : decide (n6 = (o : Int)) = false := by simpa using g1
            have d2 : decide (n6 < 0) = false := by simpa using g2
            have d3 : decide (63 < n6) = false := by simp; omega
            have HKN := Lib.hid (HB5.out.knows n6)
            rw [g4] at HKN
            have HSU := Lib.hid (rowsN_succ x L q hqt)
            rw [← hn6] at HSU
            have HRB := Lib.hid (show rowB x n6 ≤ 256 from rowB_le x n6)
            have HSH := Lib.hid (fun (w : World) => shared_any (idN o) (idN n6) w (length_idN o) (length_idN n6))
            rw [show sharedOf (idN o) (idN n6) = rowB x n6 by rw [HXA.out]; rfl] at HSH
            have HI1 := Lib.hid (fun (w : World) (hc : Consts w) => id_any o w hc)
            have HI2 := Lib.hid (fun (w : World) (hc : Consts w) => id_any n6 w hc)
            have hr4 := HR4.out q (rowB x n6)
            obtain ⟨j, hj⟩ : ∃ j, j = rowB x n6 := ⟨_, rfl⟩
            simp only [← hj] at HSH HSU HRB hr4
            obtain ⟨d6, hd6⟩ : ∃ d6, d6 = idN n6 := ⟨_, rfl⟩
            obtain ⟨do6, hdo6⟩ : ∃ do6, do6 = idN (o : Int) := ⟨_, rfl⟩
            simp only [← hd6, ← hdo6] at HSH HI1 HI2
            have d4 : (n6 == (o : Int)) = false := by simpa using g1
            clear hj hd6 hdo6 hmem hn6 e62 e63 hcell6 hb6 e61 g4 hgB hOw
            go_wp2_with fail
            refine HKN.out.mono ?_
            rintro e w6 ⟨rfl, h6, hb6⟩
            have H6 := Lib.hid h6
            have HB6 := Lib.hid hb6
            clear h6 hb6 HKN
            go_wp2_with fail
            refine (HI1.out w6 H6.out.c).mono ?_
            rintro e w7 ⟨rfl, hb7⟩
            have H7 := Lib.hid (H6.out.on hb7)
            have HB7 := Lib.hid (belowThen HB6.out hb7)
            clear hb7 H6 HB6 HI1
            go_wp2_with fail
            refine (HI2.out w7 H7.out.c).mono ?_
            rintro e w8 ⟨rfl, hb8⟩
            have H8 := Lib.hid (H7.out.on hb8)
            have HB8 := Lib.hid (belowThen HB7.out hb8)
            clear hb8 H7 HB7 HI2
            go_wp2_with fail
            refine (HSH.out w8).mono ?_
            rintro e w9 ⟨rfl, hb9⟩
            have H9 := Lib.hid (H8.out.on hb9)
            have HB9 := Lib.hid (belowThen HB8.out hb9)
            clear hb9 H8 HB8 HSH
            have HM9 := Lib.hid (HM5.out.below HB9.out)
            have hlk := HM9.out.mpI.look j (by have := HRB.out; omega)
            obtain ⟨w10, hup, hm10, hg10⟩ := HM9.out.put j (rowsN x L q j + 1) (by have := HRB.out; omega) (by omega) (by have := HLL.out; omega)
            rw [← HSU.out] at hm10
            have HM10 := Lib.hid hm10
            have H10 := Lib.hid (H9.out.turn (by simp) HWG.out hg10)
            have HO10 := Lib.hid (show ∃ B, g < B ∧ Owns w10 B Tin (.slice (some ⟨b6, 0, none⟩) L.length q2) (L.map iv) by
              obtain ⟨B, hgB, hOw⟩ := HO5.out
              refine ⟨B, hgB, (hOw.below HB9.out).of_below fun y hy => hg10.block y ((hOw.below HB9.out).lt y hy).1 (fun e => ?_)⟩
              injection e with e
              have := ((hOw.below HB9.out).lt y hy).2
              omega)
            rw [show ((rowsN x L q j + 1 : Nat) : Int) = (rowsN x L q j : Int) + 1 from by omega] at hup
            obtain ⟨cj, hcj⟩ : ∃ cj, cj = rowsN x L q j := ⟨_, rfl⟩
            rw [← hcj] at hlk hup hr4
            clear hm10 hg10 hcj HSU
            go_wp2_with fail
            go_round
            case rel => exact ⟨q + 1, by omega, by go_num, Lib.hid ⟨H10.out, HO10.out, _, _, HM10.out⟩⟩
            case measure => simp [intOf]; omega
          · have hd3 : ¬ (q : Int) < (L.length : Int) := by omega
            have HBB := Lib.hid HB5.out.below
            obtain ⟨r, hr⟩ : ∃ r, r = wr.heap.size := ⟨_, rfl⟩
            have HRR := Lib.hid hr
            clear hr
            go_wp2_with (first
              | (at_range
                 refine wp_range_k HM5.out (.tmp 70) rfl rfl rfl ?_
                 intro w6 hrg6 hb6 hs6
                 rw [← HRR.out] at hrg6 ⊢
                 have HRG6 := Lib.hid hrg6
                 have HB6 := Lib.hid (belowThen HBB.out hb6)
                 have HWR := Lib.hid (show W.heap.size ≤ r by rw [HRR.out]; exact HBB.out.size)
                 clear hrg6 hb6 hs6)
              | fail)
            have HC4 := Lib.hid (show ∀ j, rowsN x L q j ≤ 4 from fun j => HR4.out q j)
            obtain ⟨c, hcc⟩ : ∃ c, c = rowsN x L q := ⟨_, rfl⟩
            rw [← hcc] at HC4 HRG6
            clear hcc HRR HB5 HO5 HM5 HBB
            go_loopw [11] (fun _ w7 => ∃ cnt, Hid (RgK w7 g r q c h5 cnt) ∧ Hid (Below W.heap.size W w7)) (fun _ w7 => w7.rangeLeft g r)
            case atStart => exact ⟨_, HRG6, HB6⟩
            case round =>
              obtain ⟨cnt, HRG, HBW⟩ := hrel
              clear HRG6 HB6
              go_wp2_with (first
                | (at_next; refine wp_next_k HRG.out (.tmp 71) rfl rfl rfl ?_ ?_)
                | fail)
              · go_wp2_with fail
                go_ret
                exact ⟨rfl, HBW.out⟩
              · intro j w8 cnt1 hj hrg8 hlt8 hg8 hen
                have hc4 := HC4.out j
                have hc5 : ¬ (4 : Int) < (c j : Int) := by omega
                have hc6 : decide ((4 : Int) < (c j : Int)) = false := by simpa using hc5
                have HRG8 := Lib.hid hrg8
                have HB8 := Lib.hid (show Below W.heap.size W w8 from belowNew HBW.out hg8 HWR.out)
                have HLT := Lib.hid hlt8
                clear hrg8 hlt8 hg8
                go_wp2_with fail
                go_roundw
                case rel => exact ⟨_, HRG8, HB8⟩
                case measure => rw [HRG8.out.left, HRG.out.left]; exact HLT.out
end Go.Proofs.YtaicjdjfhbmfeaaDoor
