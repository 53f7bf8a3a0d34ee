/-
  The laws of layer 10: awake.
-/
import Derived.Test.YtjdhcanblpifcaaDoorWeaB
namespace Go.Proofs.YtjdhcanblpifcaaDoor
open Go.RowKit Crv
set_option maxRecDepth 100000 in
set_option maxHeartbeats 1000000 in
theorem awake10_any (w : World) (hc : Consts w) :
    Calls Tryd.prog 20 #[] w fun e w' => e = .returned (.bool true) ∧ Below w.heap.size w w' := by
  have HC := Lib.hid hc
  have HBD := Lib.hid (build_any (.slice (some ⟨w.heap.size, 0, none⟩) 2 2) [ab, cc] (w.alloc (.cells #[tx ab, tx cc] 9)) (hc.below (belowSelf w _)) (Txs.new [ab, cc] 2) (by simp) chk_ac)
  rw [all_ac, root_ac] at HBD
  have hA := length_oidOf 1 ab
  have hB := length_oidOf 1 cc
  have hR := length_oidOf 2 nodeAc
  have HG0 := Lib.hid (give_0 (oidOf 2 nodeAc) (Ne.symm names_differ))
  have HG1 := Lib.hid (give_1 (oidOf 1 ab) (oidOf 1 cc) nodeAc parse_ac)
  have HG2 := Lib.hid (give_2 (oidOf 1 cc))
  have HG3 := Lib.hid give_3
  have HOB := Lib.hid (show ([mkOb 1 ab, mkOb 1 cc, mkOb 2 nodeAc].map obCs) = [obC 1 (oidOf 1 ab) ab, obC 1 (oidOf 1 cc) cc, obC 2 (oidOf 2 nodeAc) nodeAc] from rfl)
  rw [HOB.out] at HBD
  have hTl : nodeAc.length ≤ 1000000 := by
    have := length_txtN 1 [(oidOf 1 ab, 2), (oidOf 1 cc, 1)] (by omega) (by simp) (by
      intro p hp
      simp only [List.mem_cons, List.not_mem_nil, or_false] at hp
      rcases hp with rfl | rfl
      · exact ⟨length_oidOf _ _, by simp⟩
      · exact ⟨length_oidOf _ _, by simp⟩)
    unfold nodeAc
    exact Nat.le_trans this (by omega)
  obtain ⟨A, hAe⟩ : ∃ x, x = oidOf 1 ab := ⟨_, rfl⟩
  obtain ⟨B, hBe⟩ : ∃ x, x = oidOf 1 cc := ⟨_, rfl⟩
  obtain ⟨T, hTe⟩ : ∃ x, x = nodeAc := ⟨_, rfl⟩
  rw [← hTe] at HBD hR HG0 HG1 hTl
  obtain ⟨R, hRe⟩ : ∃ x, x = oidOf 2 T := ⟨_, rfl⟩
  rw [← hAe] at HBD hA HG1 HG2
  rw [← hBe] at HBD hB HG1 HG2 HG3
  rw [← hRe] at HBD hR HG0 HG1
  have SZP := Lib.hid (sz_pt (R, 3) hR)
  have HZ := Lib.hid (show (List.replicate 32 (byteV 0) ++ [Value.int .i64 0]).length = (ptC (R, 3)).length by rw [length_ptC (R, 3) hR]; rfl)
  have ONE := Lib.hid (one_ptC (R, 3))
  have HNEW := Lib.hid (fun W => wnew_any (R, 3) hR W)
  have H33 := Lib.hid (show ([obC 1 A ab, obC 1 B cc, obC 2 R T].flatten)[33]? = some (.string (str ab)) by
    have h1 := length_obC 1 A ab hA
    rw [List.flatten_cons, List.getElem?_append_left (by omega)]
    simp [obC, hA])
  have H101 := Lib.hid (show ([obC 1 A ab, obC 1 B cc, obC 2 R T].flatten)[101]? = some (.string (str T)) by
    have h1 := length_obC 1 A ab hA
    have h2 := length_obC 1 B cc hB
    rw [List.flatten_cons, List.getElem?_append_right (by omega), h1, List.flatten_cons, List.getElem?_append_right (by omega), h2]
    simp [obC, hR])
  have SZW := Lib.hid (sz_wt 1 (A, 2) hA)
  have HZW := Lib.hid (show zWt.length = (wtC 1 (A, 2)).length by rw [length_wtC 1 (A, 2) hA]; rfl)
  have ONEW := Lib.hid (one_wtC 1 (A, 2))
  have HK33 := Lib.hid (show (wtC 1 (A, 2))[33]? = some (.int .i64 2) by simp [wtC, ptC, hA])
  have HRL := Lib.hid hR
  have HAL := Lib.hid hA
  have HBL := Lib.hid hB
  clear hc HOB hAe hTe hRe hBe hA hR hB
  go_enter Tryd.func20, Tryd.ntmps20
  go_wp2_with fail
  refine HBD.out.mono ?_
  rintro e w1 ⟨vo, rfl, hro, hb1⟩
  obtain ⟨go, capo, hvo, hcapo, hnews⟩ := hro.front (by simp)
  simp only [List.length_cons, List.length_nil, Nat.reduceAdd] at hvo hcapo
  subst hvo
  have h33 : w1.cell? ⟨go, 33, none⟩ = some (.string (str ab)) := hnews 33 _ H33.out
  have h101 : w1.cell? ⟨go, 101, none⟩ = some (.string (str T)) := hnews 101 _ H101.out
  have hgo : go < w1.heap.size := World.block_lt_of_cell? w1 _ h101
  have HC33 := Lib.hid h33
  have HC101 := Lib.hid h101
  have HB1 := Lib.hid (belowThen (belowSelf w _) hb1)
  clear HBD hro hb1 hnews h33 h101
  go_wp2_with (first
    | (refine wp_store_gen (B := w1.heap.size) (w0 := w1) (belowSelf w1 _) (Nat.le_refl _) (Mem.newAt w1 Tpt (List.replicate 32 (byteV 0) ++ [.int .i64 0]) rfl) (ptC (R, 3)) Tpt (.tmp 1) (.tmp 12) rfl rfl rfl rfl SZP.out HZ.out ONE.out ?_
       intro W2 hm2 hb2 hz2 hk2
       have HM2 := Lib.hid hm2
       have HB2 := Lib.hid hb2
       clear hm2 hb2 hz2 hk2)
    | (refine wp_load_mem HM2.out Tpt (.tmp 1) _ rfl rfl rfl Tryd.underlying43 rfl SZP.out ?_)
    | fail)
  refine (HNEW.out _).mono ?_
  rintro e w3 ⟨wb, vp, rfl, hw3, hb3⟩
  have HW3 := Lib.hid hw3
  have HB3 := Lib.hid hb3
  have hgo2 : go < W2.heap.size := by have := HB2.out.size; omega
  have hz3 : W2.heap.size ≤ w3.heap.size := hb3.size
  have HBW3 := Lib.hid (belowThen HB1.out (belowThen HB2.out HB3.out))
  have HOV := Lib.hid (over_any w3 wb W2.heap.size vp _ _ hw3)
  have HGV0 := Lib.hid (give_any w3 wb W2.heap.size vp (.slice none 0 0) _ ab (HC.out.below HBW3.out) (by simp) (by simp) (by simp) (by decide) (by intro s hs; simp only [List.mem_singleton] at hs; subst hs; exact HRL.out) hz3 hw3)
  rw [HG0.out] at HGV0
  have c33 : w3.cell? ⟨go, 33, none⟩ = some (.string (str ab)) := (HB3.out.cell (p := ⟨go, 33, none⟩) hgo2).trans ((HB2.out.cell (p := ⟨go, 33, none⟩) hgo).trans HC33.out)
  clear hw3 hb3 HNEW HM2
  go_wp2_with fail
  refine HOV.out.mono ?_
  rintro e w4 ⟨rfl, rfl⟩
  clear HOV
  go_wp2_with fail
  refine HGV0.out.mono ?_
  rintro e w5 ⟨rfl, vp5, vt5, hw5, hf5⟩
  have HBB5 := Lib.hid hf5.bel
  have hz5 : W2.heap.size ≤ w5.heap.size := by have := hf5.bel.size; omega
  have HBW5 := Lib.hid (belowThen (belowThen HB1.out HB2.out) ((HB3.out).trans hf5.bel))
  have c101 : w5.cell? ⟨go, 101, none⟩ = some (.string (str T)) := (hf5.bel.cell (p := ⟨go, 101, none⟩) hgo2).trans ((HB3.out.cell (p := ⟨go, 101, none⟩) hgo2).trans ((HB2.out.cell (p := ⟨go, 101, none⟩) hgo).trans HC101.out))
  have HGV1 := Lib.hid (give_any w5 wb W2.heap.size vp5 vt5 _ T (HC.out.below HBW5.out) (by simp) (by simp) (by simp) hTl (by intro s hs; simp only [List.mem_singleton] at hs; subst hs; exact HRL.out) hz5 hw5)
  rw [HG1.out] at HGV1
  clear hw5 hf5 HGV0 c33
  go_wp2_with fail
  refine HGV1.out.mono ?_
  rintro e w6 ⟨rfl, vp6, vt6, hw6, hf6⟩
  obtain ⟨g6, cap6, hvp6, -⟩ := hw6.cons
  subst hvp6
  have HNX := Lib.hid (next_any w6 wb W2.heap.size g6 cap6 vt6 _ _ _ _ (by simp) HAL.out hw6)
  rw [show kindS ((A, 2), 0) = 1 from rfl] at HNX
  have HW6 := Lib.hid hw6
  have HBW6 := Lib.hid (HBW5.out.trans (hf6.bel.mono (by have := HB1.out.size; have := HB2.out.size; omega)))
  have hz6 : W2.heap.size ≤ w6.heap.size := by have := hf6.bel.size; omega
  clear hw6 hf6 HGV1 c101
  go_wp2_with fail
  refine HNX.out.mono ?_
  rintro e w7 ⟨rfl, hb7⟩
  have HB7 := Lib.hid hb7
  clear HNX hb7
  go_wp2_with (first
    | (refine wp_store_gen (B := w7.heap.size) (w0 := w7) (belowSelf w7 _) (Nat.le_refl _) (Mem.newAt w7 Twt zWt rfl) (wtC 1 (A, 2)) Twt (.tmp 7) (.tmp 47) rfl rfl rfl rfl SZW.out HZW.out ONEW.out ?_
       intro W8 hm8 hb8 hz8 hk8
       have k0 : W8.cell? ⟨w7.heap.size, 0, none⟩ = some (.int .i64 1) := hm8.cell 0
       have k33 : W8.cell? ⟨w7.heap.size, 33, none⟩ = some (.int .i64 2) := (hm8.cell 33).trans HK33.out
       have HB8 := Lib.hid (belowThen HB7.out hb8)
       have HW8 := Lib.hid (HW6.out.below HB8.out)
       have HGV2 := Lib.hid (give_any W8 wb W2.heap.size (.slice (some ⟨g6, 0, none⟩) 2 cap6) vt6 _ ab (HC.out.below (belowThen HBW6.out HB8.out)) (by simp) (by simp) (by simp) (by decide) (by intro s hs; simp only [List.mem_cons, List.not_mem_nil, or_false] at hs; rcases hs with rfl | rfl; exact HAL.out; exact HBL.out) (by have := HB8.out.size; omega) HW8.out)
       rw [HG2.out] at HGV2
       have hz8' : W2.heap.size ≤ W8.heap.size := by have := HB8.out.size; omega
       clear hm8 hb8 hz8 hk8)
    | fail)
  refine HGV2.out.mono ?_
  rintro e w9 ⟨rfl, vp9, vt9, hw9, hf9⟩
  have HBW9 := Lib.hid ((belowThen HBW6.out HB8.out).trans (hf9.bel.mono (by have := HB1.out.size; have := HB2.out.size; omega)))
  have hz9 : W2.heap.size ≤ w9.heap.size := by have := hf9.bel.size; omega
  have HGV3 := Lib.hid (give_any w9 wb W2.heap.size vp9 vt9 _ cc (HC.out.below HBW9.out) (by simp) (by simp) (by simp) (by decide) (by intro s hs; simp only [List.mem_singleton] at hs; subst hs; exact HBL.out) hz9 hw9)
  rw [HG3.out] at HGV3
  clear hw9 hf9 HGV2 k0 k33
  go_wp2_with fail
  refine HGV3.out.mono ?_
  rintro e w10 ⟨rfl, vp10, vt10, hw10, hf10⟩
  have HBW10 := Lib.hid (HBW9.out.trans (hf10.bel.mono (by have := HB1.out.size; have := HB2.out.size; omega)))
  have HOV2 := Lib.hid (over_any w10 wb W2.heap.size vp10 vt10 _ hw10)
  clear hw10 hf10 HGV3
  go_wp2_with fail
  refine HOV2.out.mono ?_
  rintro e w11 ⟨rfl, rfl⟩
  go_wp2_with fail
  go_ret
  exact ⟨rfl, HBW10.out⟩
end Go.Proofs.YtjdhcanblpifcaaDoor
