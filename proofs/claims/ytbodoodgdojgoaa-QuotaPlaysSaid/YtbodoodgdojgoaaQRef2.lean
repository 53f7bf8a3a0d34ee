/-
  The reference of layer 24: Take.
-/
import Derived.Test.YtbodoodgdojgoaaQRef
namespace Go.Proofs.Ytbodoodgdojgoaa
open Go.RowKit Go.Maps Crv

theorem delK_snoc (n : Int) (a : SHt) (o : Int × (Int × Int)) : delK n (a ++ [o]) = delK n a ++ (if o.1 = n then [] else [o]) := by
  unfold delK
  rw [List.filter_append]
  congr 1
  by_cases h : o.1 = n <;> simp [h]
theorem getK_snoc (n : Int) (a : SHt) (o : Int × (Int × Int)) (h : o.1 = n → getK n a = none) : getK n (a ++ [o]) = if o.1 = n then some o.2 else getK n a := by
  rw [getK_app2]
  obtain ⟨m, p⟩ := o
  by_cases hm : m = n
  · subst hm
    rw [h rfl, if_pos rfl, getK_self]; rfl
  · rw [getK_one _ hm, if_neg hm, Option.or_none]
theorem uniq_before {l : SHt} (hu : Uniq l) {i : Nat} (hi : i < l.length) : getK l[i].1 (l.take i) = none := by
  rw [getK_none]
  intro p hp
  obtain ⟨j, hj, rfl⟩ := List.getElem_of_mem hp
  rw [List.length_take] at hj
  rw [List.getElem_take]
  exact List.pairwise_iff_getElem.1 hu j i (by omega) hi (by omega)
theorem date_snoc {l : SHt} (hu : Uniq l) {i : Nat} (hi : i < l.length) (n now : Int) : dateQ (l.take (i + 1)) n now = if l[i].1 = n then max l[i].2.2 now else dateQ (l.take i) n now := by
  unfold dateQ
  rw [List.take_succ_eq_append_getElem hi, getK_snoc n (l.take i) l[i] (fun h => by rw [← h]; exact uniq_before hu hi)]
  by_cases h : l[i].1 = n <;> simp [h]
section
variable {w : World} {v : Value} {l : SHt} {each most : Int}
set_option maxHeartbeats 4000000 in
set_option maxRecDepth 100000 in
theorem rtake_any (hr : RtQ each most) (h : RdS w v l) (hT : OkQ most l) (hu : Uniq l) (hl : l.length ≤ 1000000) (n cost : Int) {now : Int} (hw : 0 ≤ now ∧ now ≤ 1099511627776) : Calls Try.prog 13 #[v, iv each, iv most, iv n, iv cost, iv now] w fun e w' =>
    ∃ v', e = .returned (.tuple #[v', .bool (okQ each most l n cost now)]) ∧ RdS w' v' (takeL each most l n cost now) ∧ Below w.heap.size w w' := by
  have HHAS := Lib.hid (rhas_any hr h hT hu hl n hw)
  obtain ⟨a, cap, rfl, -⟩ := h.form
  have H := Lib.hid h
  have HU := Lib.hid hu
  have hin := hasQ_in hr hT n now
  obtain ⟨x, hx⟩ : ∃ x, x = hasQ each most l n now := ⟨_, rfl⟩
  rw [← hx] at hin HHAS
  have HX := Lib.hid hx
  obtain ⟨N, hN⟩ : ∃ N, N = l.length := ⟨_, rfl⟩
  have HN := Lib.hid hN
  rw [← hN] at H hl HHAS ⊢
  have HRT := Lib.hid hr
  clear h hT hu hx hr hN
  by_cases h1 : cost < 0
  · have hok : okQ each most l n cost now = false := by unfold okQ; simp [h1]
    have HOK := Lib.hid hok
    have HTL := Lib.hid (show takeL each most l n cost now = l from by unfold takeL; rw [hok, if_neg (by simp)])
    have hd1 : decide (cost < 0) = true := by simpa using h1
    clear hok
    go_enter Try.func13, Try.ntmps13
    go_wp2_with fail
    refine HHAS.out.mono ?_
    rintro e w1 ⟨rfl, hb1⟩
    have HB1 := Lib.hid hb1
    clear hb1
    go_wp2_with fail
    exact bodyPost_ret (results_tmp2 rfl _ _ _) rfl ⟨_, by rw [HOK.out]; rfl, by rw [HTL.out]; exact H.out.below HB1.out, HB1.out⟩
  have hd1 : decide (cost < 0) = false := by simpa using h1
  by_cases h2 : x < cost
  · have hok : okQ each most l n cost now = false := by unfold okQ; rw [← HX.out]; simp [h2]
    have HOK := Lib.hid hok
    have HTL := Lib.hid (show takeL each most l n cost now = l from by unfold takeL; rw [hok, if_neg (by simp)])
    have hd2 : decide (cost > x) = true := by simpa using h2
    clear hok
    go_enter Try.func13, Try.ntmps13
    go_wp2_with fail
    refine HHAS.out.mono ?_
    rintro e w1 ⟨rfl, hb1⟩
    have HB1 := Lib.hid hb1
    clear hb1
    go_wp2_with fail
    exact bodyPost_ret (results_tmp2 rfl _ _ _) rfl ⟨_, by rw [HOK.out]; rfl, by rw [HTL.out]; exact H.out.below HB1.out, HB1.out⟩
  have hd2 : decide (cost > x) = false := by simp; omega
  have h2' : ¬ cost > x := by omega
  have hok : okQ each most l n cost now = true := by unfold okQ; rw [← HX.out]; simp [h1, h2]
  have HOK := Lib.hid hok
  have HTL := Lib.hid (show takeL each most l n cost now = delK n l ++ [(n, (x - cost, dateQ l n now))] from by unfold takeL; rw [hok, if_pos rfl, HX.out])
  obtain ⟨y, hy⟩ : ∃ y, x - cost = y := ⟨_, rfl⟩
  obtain ⟨wy, wy'⟩ := w64 hy (by have := HRT.out; unfold RtQ at this; omega)
  rw [hy] at HTL
  obtain ⟨ti, hti, hz, hs3, hby⟩ := sr_inf
  have HTI := Lib.hid hti
  have HZZ := Lib.hid hz
  have HS3 := Lib.hid hs3
  have HBY := Lib.hid hby
  have HY := Lib.hid hy
  clear hti hz hs3 hby hy hok
  go_enter Try.func13, Try.ntmps13
  go_wp2_with fail
  refine HHAS.out.mono ?_
  rintro e w1 ⟨rfl, hb1⟩
  have HB1 := Lib.hid (belowThen hb1 (belowSelf w1 (.cells #[] Tsr)))
  have HR1 := Lib.hid (show RwS (w1.alloc (.cells #[] Tsr)) w.heap.size (.slice (some ⟨w1.heap.size, 0, none⟩) 0 0) [] from Rw.new Tsr 3 hb1.size)
  have HD0 := Lib.hid (show dateQ (l.take 0) n now = now from by unfold dateQ getK; simp; omega)
  clear hb1
  go_wp2_with fail
  go_loopw [15, 16, 37] (fun v d s wr => ∃ i : Nat, i ≤ N ∧ d = iv (dateQ (l.take i) n now) ∧ s = .int .i64 i ∧ Hid (RwS wr w.heap.size v (delK n (l.take i))) ∧ Hid (Below w.heap.size w wr)) (fun _ _ s _ => N - (intOf s).toNat)
  case atStart => exact ⟨0, by omega, by rw [HD0.out], rfl, HR1, HB1⟩
  case round =>
    obtain ⟨i, hi, rfl, rfl, HR, HB⟩ := hrel
    clear HR1 HB1 HD0
    obtain ⟨d, hd⟩ : ∃ d, d = dateQ (l.take i) n now := ⟨_, rfl⟩
    rw [← hd]
    have HD := Lib.hid hd
    clear hd
    by_cases hlt : i < N
    · have hdl : decide ((i : Int) < (N : Int)) = true := by simp; omega
      have hdl2 : (i : Int) < (N : Int) := by omega
      have hil : i < l.length := by rw [← HN.out]; exact hlt
      obtain ⟨g, off, rfl, c0, c1, c2⟩ := (H.out.below HB.out).at hil
      have HDS := Lib.hid (date_snoc HU.out hil n now)
      have HT := Lib.hid (show delK n (l.take (i + 1)) = delK n (l.take i) ++ (if l[i].1 = n then [] else [l[i]]) from by rw [List.take_succ_eq_append_getElem hil, delK_snoc])
      obtain ⟨o, ho⟩ : ∃ o, o = l[i] := ⟨_, rfl⟩
      rw [← ho] at c0 c1 c2 HDS HT
      have HO := Lib.hid (one_shC o)
      have HLE := Lib.hid (show ((delK n (l.take i)).map shC).length ≤ 900000000 from by
        have : (delK n (l.take i)).length ≤ (l.take i).length := List.length_filter_le _ _
        rw [List.length_take] at this
        rw [List.length_map]
        omega)
      obtain ⟨m, p0, p1⟩ := o
      simp only at c0 c1 c2 HDS HT
      have HB2 := Lib.hid (belowThen HB.out (belowSelf wr (.cells #[iv m, iv p0, iv p1] Tsr)))
      have HR2 := Lib.hid (show RwS (wr.alloc (.cells #[iv m, iv p0, iv p1] Tsr)) w.heap.size u15 (delK n (l.take i)) from Rw.below HR.out (belowSelf wr _))
      clear ho hil HR HB
      by_cases hm : m = n
      · subst hm
        have HDS2 := Lib.hid (show dateQ (l.take (i + 1)) m now = max now p1 from by rw [HDS.out, if_pos rfl]; exact Int.max_comm _ _)
        have HR3 := Lib.hid (show RwS (wr.alloc (.cells #[iv m, iv p0, iv p1] Tsr)) w.heap.size u15 (delK m (l.take (i + 1))) from by rw [HT.out, if_pos rfl, List.append_nil]; exact HR2.out)
        go_wp2_with (first
          | (refine wp_max0 (c := now) (d := p1) (.tmp 45) (.tmp 47) rfl rfl rfl rfl ?_)
          | fail)
        go_roundw
        case rel => exact ⟨i + 1, by omega, by rw [HDS2.out], by go_num, HR3, HB2⟩
        case measure => simp [intOf]; omega
      · have hmn : (m == n) = false := by simpa using hm
        have HM := Lib.hid hm
        have HDS2 := Lib.hid (show dateQ (l.take (i + 1)) n now = d from by rw [HDS.out, if_neg hm, HD.out])
        clear hm
        go_wp2_with (first
          | (refine wp_build_sr (m, p0, p1) (.tmp 50) rfl rfl rfl ?_)
          | (at_builtin
             refine wp_append_row (Rw.below HR2.out (belowSelf _ _)) w.heap.size (belowThen HB2.out (belowSelf _ _)) (Nat.le_refl _) (shC (m, p0, p1)) (by omega) rfl HO.out (.tmp 49) (.tmp 51) Tsrs ti (.agg #[iv 0, iv 0, iv 0]) 24 rfl rfl Try.underlying31 HTI.out HZZ.out HS3.out HBY.out rfl (by omega) rfl rfl (fun j y hy => by
               have := (Mem.new (wr.alloc (.cells #[iv m, iv p0, iv p1] Tsr)) Tsr (shC (m, p0, p1))).cell j
               rw [hy] at this
               exact this) HLE.out (by have := HB2.out.size; simp at this ⊢; omega) ?_
             intro v3 w3 hr3 hb3 hs3 hg3 hat3
             have HR3 := Lib.hid (show RwS w3 w.heap.size v3 (delK n (l.take (i + 1))) from by
               unfold RwS
               rw [HT.out, if_neg HM.out, List.map_append]
               exact hr3)
             have HB3 := Lib.hid hb3
             clear hr3 hb3 hs3 hg3 hat3)
          | fail)
        go_roundw
        case rel => exact ⟨i + 1, by omega, by rw [HDS2.out], by go_num, HR3, HB3⟩
        case measure => simp [intOf]; omega
    · have hdl : decide ((i : Int) < (N : Int)) = false := by simp; omega
      have hdl2 : ¬ (i : Int) < (N : Int) := by omega
      have hE : l.take i = l := List.take_of_length_le (by rw [← HN.out]; omega)
      rw [hE] at HR HD
      have HO := Lib.hid (one_shC (n, y, d))
      have HLE := Lib.hid (show ((delK n l).map shC).length ≤ 900000000 from by
        have : (delK n l).length ≤ l.length := List.length_filter_le _ _
        rw [List.length_map]
        have := HN.out
        omega)
      clear hE
      go_wp2_with (first
        | (refine wp_build_sr (n, y, d) (.tmp 60) rfl rfl rfl ?_)
        | (at_builtin
           refine wp_append_row (Rw.below HR.out (belowSelf wr _)) w.heap.size (belowThen HB.out (belowSelf wr _)) (Nat.le_refl _) (shC (n, y, d)) (by omega) rfl HO.out (.tmp 54) (.tmp 61) Tsrs ti (.agg #[iv 0, iv 0, iv 0]) 24 rfl rfl Try.underlying31 HTI.out HZZ.out HS3.out HBY.out rfl (by omega) rfl rfl (fun j u hu => by
             have := (Mem.new wr Tsr (shC (n, y, d))).cell j
             rw [hu] at this
             exact this) HLE.out (by have := HB.out.size; simp at this ⊢; omega) ?_
           intro v3 w3 hr3 hb3 hs3 hg3 hat3
           have HR3 := Lib.hid (show RwS w3 w.heap.size v3 (takeL each most l n cost now) from by
             unfold RwS
             rw [HTL.out, ← HD.out, List.map_append]
             exact hr3)
           have HB3 := Lib.hid hb3
           clear hr3 hb3 hs3 hg3 hat3)
        | fail)
      exact bodyPost_ret (results_tmp2 rfl _ _ _) rfl ⟨_, by rw [HOK.out]; rfl, HR3.out.rd, HB3.out⟩
end
end Go.Proofs.Ytbodoodgdojgoaa
