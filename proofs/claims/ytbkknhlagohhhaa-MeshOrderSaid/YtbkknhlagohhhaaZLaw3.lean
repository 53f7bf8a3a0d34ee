/-
  MeshOrder: the walk.
-/
import Derived.Test.YtbkknhlagohhhaaZRow
import Derived.Test.YtbkknhlagohhhaaZp
namespace Go.Proofs.Ytbkknhlagohhhaa
open Go.RowKit Crv

theorem third (z : Int) : ∃ f : Nat, wrap64 (3 + bits BinOp.and IntKind.i64 z 1) = (f : Int) ∧ f < 6 ∧ f ≠ 2 := by
  have h := i64_mask z 1 (by omega)
  have h' : bits .and .i64 z 1 = z % 2 := h
  rw [h', IntWalk.wrap64_in _ (by omega)]
  exact ⟨(3 + z % 2).toNat, by omega, by omega, by omega⟩
/-- The texts that are sent: the first k. -/
def sentL (ls : List (List UInt8)) (k : Nat) : List (List UInt8) := (ls.take k).map (·.take 20)
theorem sentL_succ (ls : List (List UInt8)) (k : Nat) (h : k < ls.length) : sentL ls (k + 1) = sentL ls k ++ [(ls.getD k []).take 20] := by
  unfold sentL
  rw [List.take_add_one, List.getElem?_eq_getElem h, List.getD_eq_getElem?_getD, List.getElem?_eq_getElem h, List.map_append]
  rfl
theorem length_sentL (ls : List (List UInt8)) (k : Nat) (h : k ≤ ls.length) : (sentL ls k).length = k := by
  unfold sentL
  rw [List.length_map, List.length_take, Nat.min_eq_left h]
/-- A row that is kept beside a mesh. -/
def Bes (W : World) (base mb : Nat) (v : Value) (xs : List (List UInt8)) (x : MS) : Prop := ∃ sb, v.ownBlock = some sb ∧ base ≤ sb ∧ Owns W base Tst v (xs.map tx) ∧ Mx W (Ex base [sb]) mb x
theorem Bes.call {W W' : World} {base mb sb : Nat} {v : Value} {xs : List (List UInt8)} {x : MS} (hs : v.ownBlock = some sb) (hbs : base ≤ sb) (ho : Owns W base Tst v (xs.map tx)) (hx : Mx W' (Ex base [sb]) mb x) (hf : Fr (Ex base [sb]) W W') : Bes W' base mb v xs x :=
  ⟨sb, hs, hbs, ho.of_below fun g hg => by
    rw [hs] at hg
    injection hg with hg
    subst hg
    exact hf.block sb (ho.lt sb hs).1 (by simp), hx⟩
theorem Bes.below {W W' : World} {base mb : Nat} {v : Value} {xs : List (List UInt8)} {x : MS} (h : Bes W base mb v xs x) (hb : Below W.heap.size W W') : Bes W' base mb v xs x := by
  obtain ⟨sb, h1, h2, h3, h4⟩ := h
  exact ⟨sb, h1, h2, h3.below hb, h4.below hb⟩
/-- The row grows: the mesh stays. -/
theorem Bes.grow {W W' : World} {base mb : Nat} {v v' : Value} {xs ys : List (List UInt8)} {x : MS} (h : Bes W base mb v xs x) (ho : Owns W' base Tst v' (ys.map tx)) (hg : W.grownBy W' v.ownBlock) (hat : v'.ownBlock = v.ownBlock ∨ v'.ownBlock = some W.heap.size) (hb : base ≤ W.heap.size) : Bes W' base mb v' ys x := by
  obtain ⟨sb, h1, h2, h3, h4⟩ := h
  have h5 : Mx W' (fun b => Ex base [sb] b ∧ b < W.heap.size) mb x := (h4.mono (F' := fun b => Ex base [sb] b ∧ b < W.heap.size) fun b hlt hF => ⟨hF, hlt⟩).of fun b hlt hF => hg.block b hlt (fun e => by
    rw [h1] at e
    injection e with e
    exact hF.1.2 (by simp [e]))
  rcases hat with hat | hat
  · exact ⟨sb, hat.trans h1, h2, ho, h5.mono fun b _ hF => hF.1⟩
  · refine ⟨_, hat, hb, ho, h5.mono fun b _ hF => ⟨hF.1.1, fun hs => ?_⟩⟩
    simp at hs
    omega
theorem Bes.form {W : World} {base mb : Nat} {v : Value} {xs : List (List UInt8)} {x : MS} (h : Bes W base mb v xs x) : ∃ sb cap, v = .slice (some ⟨sb, 0, none⟩) xs.length cap ∧ ∀ i, i < xs.length → W.cell? ⟨sb, i, none⟩ = some (tx (xs.getD i [])) := by
  obtain ⟨sb, h1, h2, h3, h4⟩ := h
  obtain ⟨a, cap, rfl, ha, hb, hc⟩ := h3.form
  rcases a with _ | ⟨b, o, sp⟩
  · cases h1
  · rw [List.length_map] at *
    rcases h3.2 with ⟨e, _⟩ | ⟨g, cap', cur, e, _⟩
    · cases e
    · injection e with e1 e2 e3
      injection e1 with e1
      injection e1 with e1 e2 e3
      subst e1 e2 e3
      refine ⟨b, cap, rfl, fun i hi => ?_⟩
      obtain ⟨g', hg', _, hc'⟩ := hc i hi
      injection hg' with hg'
      injection hg' with hg' _ _
      subst hg'
      rw [hc', List.getElem?_map, List.getD_eq_getElem?_getD, List.getElem?_eq_getElem hi]
      rfl
set_option maxHeartbeats 4000000 in
set_option maxRecDepth 100000 in
theorem meshOrder_walk (v0 v1 : Value) (ls : List (List UInt8)) (zs : List Int) (W : World) (hv0 : Txs W v0 ls) (hv1 : ZsP W v1 zs) (hl0 : ls.length ≤ 9223372036854775807) (_hl1 : zs.length ≤ 9223372036854775807) :
    Calls Try.prog 12 #[v0, v1] W fun e w' => e = .returned (.bool true) ∧ Below W.heap.size W w' := by
  have HAW := Lib.hid (awake18_any W)
  have HCUT := Lib.hid (fun l w => cutB l 20 (by omega) w)
  have HV0 := Lib.hid hv0
  have HV1 := Lib.hid hv1
  obtain ⟨a0, cap0, rfl, _⟩ := hv0
  obtain ⟨a1, cap1, rfl, _⟩ := hv1
  obtain ⟨ti, hi, hz, hs1, hby⟩ := str_inf
  have HBY : ti.bytes ≤ 64 := by omega
  have HI := Lib.hid hi
  have HZ := Lib.hid hz
  have HS := Lib.hid hs1
  clear hi hz hs1 hby
  go_enter Try.func12, Try.ntmps12
  go_wp2_with fail
  refine HAW.out.mono ?_
  rintro e w1 ⟨rfl, hb1⟩
  have HB1 := Lib.hid hb1
  clear HAW hb1
  have HNEW := Lib.hid (mnew_ex (W := w1) (base := W.heap.size) 6 6 (by decide) HB1.out.size)
  go_wp2_with fail
  refine HNEW.out.mono ?_
  rintro e w2 ⟨rfl, hx, hb⟩
  have hB2 := HB1.out.trans (hb.mono HB1.out.size)
  have hA2 := belowSelf w2 (.cells #[] Tst)
  have HX : Hid (∃ x, OrI (sentL ls 0) 0 x ∧ Bes (w2.alloc (.cells #[] Tst)) W.heap.size (w1.heap.size + 1) (.slice (some ⟨w2.heap.size, 0, none⟩) 0 0) (sentL ls 0) x ∧ Below W.heap.size W (w2.alloc (.cells #[] Tst))) :=
    Lib.hid ⟨newM 6, OrI.start, ⟨w2.heap.size, rfl, hB2.size, Owns.of_mem (Mem.newAt w2 Tst [] rfl) hB2.size 0 0 (Nat.le_refl _) rfl (by simp [maxLen]) rfl, hx.exAdd _⟩, hB2.trans (hA2.mono hB2.size)⟩
  clear HNEW hx hb HB1 hB2 hA2
  go_wp2_with fail
  go_loopw [6, 7] (fun v i wr => ∃ k : Nat, k ≤ ls.length ∧ k ≤ 8 ∧ i = .int .i64 k ∧ Hid (∃ x, OrI (sentL ls k) k x ∧ Bes wr W.heap.size (w1.heap.size + 1) v (sentL ls k) x ∧ Below W.heap.size W wr)) (fun _ i _ => 9 - (intOf i).toNat)
  case atStart => exact ⟨0, by omega, by omega, rfl, HX⟩
  case round =>
    obtain ⟨k, hkl, hk8, rfl, HR⟩ := hrel
    clear HX
    by_cases hlt : k < ls.length ∧ k < 8
    · obtain ⟨hl1', hl2'⟩ := hlt
      have d1 : decide ((k : Int) < (ls.length : Int)) = true := by simp; omega
      have d1' : decide (k < ls.length) = true := by simpa using hl1'
      have d2 : decide ((k : Int) < 8) = true := by simp; omega
      obtain ⟨x, hor, hbe, hbw⟩ := HR.out
      obtain ⟨a', cap', hv', hc'⟩ := HV0.out.below hbw
      injection hv' with q1 q2 q3
      subst q1
      clear q2 q3
      obtain ⟨gb, off, ha, hcell⟩ := hc' k hl1'
      subst ha
      obtain ⟨y, hy⟩ : ∃ y, y = ls.getD k [] := ⟨_, rfl⟩
      rw [← hy] at hcell
      have HSU := Lib.hid (sentL_succ ls k hl1')
      rw [← hy] at HSU
      clear hy hc'
      have HC1 := Lib.hid (HCUT.out y)
      rw [show (20 : Int).toNat = 20 from rfl] at HC1
      obtain ⟨s, hs⟩ : ∃ s, s = y.take 20 := ⟨_, rfl⟩
      have HSL : Hid (s.length ≤ 20) := Lib.hid (by rw [hs, List.length_take]; omega)
      rw [← hs] at HC1 HSU
      have HOR := Lib.hid hor
      have HBE := Lib.hid hbe
      have HBW := Lib.hid hbw
      obtain ⟨sb, scap, hvs, _⟩ := hbe.form
      rw [length_sentL ls k hkl] at hvs
      subst hvs
      obtain ⟨_, _, _, ho, _⟩ := hbe
      have HO := Lib.hid ho
      have HLEN := Lib.hid (show ((sentL ls k).map tx).length + [tx s].length ≤ 1099511627776 by rw [List.length_map, length_sentL ls k hkl]; simp; omega)
      have HONE := Lib.hid (show ∀ u ∈ [tx s], u.oneCell' = true by intro u hu; simp at hu; subst hu; rfl)
      have HK := Lib.hid hl1'
      have HK8 := Lib.hid hl2'
      clear hor hbw hs HR ho
      go_wp2_with fail
      refine (HC1.out _).mono ?_
      rintro e w ⟨rfl, rfl⟩
      go_wp2_with (first
        | (at_builtin; refine wp_append_gr (v := .slice (some ⟨sb, 0, none⟩) k scap) (HO.out.alloc _) [tx s] (.tmp 31) (.tmp 33) 79 ti (.string ⟨#[]⟩) rfl rfl Try.underlying79 HI.out HZ.out HS.out HBY rfl rfl rfl (fun j u hu => cell_news_one _ _ _ j u hu) HONE.out HLEN.out (by have := HBW.out.size; simp; omega) ?_
           intro v3 w3 hown3 hg3 hat3
           have HB3 : Hid (Bes w3 W.heap.size (w1.heap.size + 1) v3 (sentL ls (k + 1)) x) := Lib.hid ((HBE.out.below (belowSelf wr (.cells #[tx s] 9))).grow (by rw [HSU.out, List.map_append]; exact hown3) hg3 hat3 (by have := HBW.out.size; simp; omega))
           have HW3 : Hid (Below W.heap.size W w3) := Lib.hid (below_grown (HO.out.alloc _) (HBW.out.alloc (by exact HBW.out.size) _) (Nat.le_refl _) (by have := HBW.out.size; simp; omega) hg3)
           clear hown3 hg3 hat3)
        | fail)
      obtain ⟨sb3, hv3, hbs3, ho3, hx3⟩ := HB3.out
      have HSE := Lib.hid (send_new hx3 HW3.out.size (by intro s hs; simp at hs; subst hs; exact (ho3.lt _ hv3).1) (by have := HOR.out.2.2.2.2; have := HK8.out; omega) 2 0 s)
      have HO1 := Lib.hid (HOR.out.one HK8.out s (by have := HSL.out; omega))
      have HV3 := Lib.hid hv3
      have HO3 := Lib.hid ho3
      clear hv3 ho3 hx3 HO HB3 HBE HBW
      refine HSE.out.mono ?_
      rintro e w4 ⟨rfl, hx4, hf4⟩
      have HB4 := Lib.hid (Bes.call HV3.out hbs3 HO3.out hx4 hf4)
      have HW4 := Lib.hid (HW3.out.trans (hf4.ex HW3.out.size))
      obtain ⟨x1, hx1⟩ : ∃ x1, x1 = (sendM x 2 s 0).1 := ⟨_, rfl⟩
      rw [← hx1] at HB4 HO1
      clear hx4 hf4 HSE hbs3 HV3 HO3 HW3 hx1
      by_cases hoth : k < zs.length
      · have d3 : decide ((k : Int) < (zs.length : Int)) = true := by simp; omega
        have d3' : decide (k < zs.length) = true := by simpa using hoth
        obtain ⟨a', cap', hv', hc'⟩ := HV1.out.below HW4.out
        injection hv' with q1 q2 q3
        subst q1
        clear q2 q3
        obtain ⟨gz, offz, hza, hzc⟩ := hc' k hoth
        subst hza
        obtain ⟨z, hz⟩ : ∃ z, z = zs.getD k 0 := ⟨_, rfl⟩
        rw [← hz] at hzc
        clear hz hc'
        obtain ⟨f3, hf3, hf6, hf2⟩ := third z
        have HSE := Lib.hid (show ∃ sb3, v3.ownBlock = some sb3 ∧ W.heap.size ≤ sb3 ∧ Owns w4 W.heap.size Tst v3 ((sentL ls (k + 1)).map tx) ∧ Mx w4 (Ex W.heap.size [sb3]) (w1.heap.size + 1) x1 from HB4.out)
        obtain ⟨sb4, hv4, hbs4, ho4, hx4⟩ := HSE.out
        have HSN := Lib.hid (send_new hx4 HW4.out.size (by intro s hs; simp at hs; subst hs; exact (ho4.lt _ hv4).1) (by have := HO1.out.2.2.2.1; have := HK8.out; omega) f3 0 [111, 116, 104, 101, 114])
        have HV4 := Lib.hid hv4
        have HO4 := Lib.hid ho4
        clear HSE hv4 ho4 hx4 HB4
        go_wp2_with fail
        simp only [hf3]
        refine HSN.out.mono ?_
        rintro e w5 ⟨rfl, hx5, hf5⟩
        have HB5 := Lib.hid (Bes.call HV4.out hbs4 HO4.out hx5 hf5)
        have HW5 := Lib.hid (HW4.out.trans (hf5.ex HW4.out.size))
        have HX : Hid (∃ x, OrI (sentL ls (k + 1)) (k + 1) x ∧ Bes w5 W.heap.size (w1.heap.size + 1) v3 (sentL ls (k + 1)) x ∧ Below W.heap.size W w5) := Lib.hid ⟨_, OrI.two HO1.out.1 (by rw [HSU.out]; exact HO1.out.2.1) (length_sentL ls (k + 1) HK.out) HO1.out.2.2.1 HO1.out.2.2.2.1 f3 hf6 hf2 _, HB5.out, HW5.out⟩
        clear hx5 hf5 HSN HV4 HO4 HB5 HW5 HW4 hf3 hf2 hf6 hbs4
        go_wp2_with fail
        refine ⟨⟨k + 1, by omega, by omega, by go_num, HX⟩, ?_⟩
        simp [intOf]; omega
      · have d3 : decide ((k : Int) < (zs.length : Int)) = false := by simp; omega
        have d3' : decide (k < zs.length) = false := by simp; omega
        have HX : Hid (∃ x, OrI (sentL ls (k + 1)) (k + 1) x ∧ Bes w4 W.heap.size (w1.heap.size + 1) v3 (sentL ls (k + 1)) x ∧ Below W.heap.size W w4) := Lib.hid ⟨x1, OrI.none HO1.out.1 (by rw [HSU.out]; exact HO1.out.2.1) (length_sentL ls (k + 1) HK.out) HO1.out.2.2.1 HO1.out.2.2.2.1, HB4.out, HW4.out⟩
        clear HB4 HW4
        go_wp2_with fail
        refine ⟨⟨k + 1, by omega, by omega, by go_num, HX⟩, ?_⟩
        simp [intOf]; omega
    · have HAL := Lib.hid hlt
      have hexit : (decide ((k : Int) < (ls.length : Int)) = false ∧ decide (k < ls.length) = false) ∨ (decide ((k : Int) < (ls.length : Int)) = true ∧ decide (k < ls.length) = true ∧ decide ((k : Int) < 8) = false) := by
        by_cases h : k < ls.length
        · exact .inr ⟨by simp; omega, by simpa using h, by simp; omega⟩
        · exact .inl ⟨by simp; omega, by simp; omega⟩
      obtain ⟨x, hor, hbe, hbw⟩ := HR.out
      have HST : Hid (∃ x, OrT (sentL ls k) 0 0 x ∧ Bes wr W.heap.size (w1.heap.size + 1) _ (sentL ls k) x ∧ Below W.heap.size W wr) := Lib.hid ⟨x, OrT.start hor hk8, hbe, hbw⟩
      obtain ⟨sb, scap, hvs, _⟩ := hbe.form
      have HLE := Lib.hid (length_sentL ls k hkl)
      obtain ⟨xs, hxs⟩ : ∃ xs, xs = sentL ls k := ⟨_, rfl⟩
      rw [← hxs] at HST HLE hvs
      subst hvs
      have hx8 : xs.length ≤ 8 := by
        have := HLE.out
        omega
      clear hor hbe hbw HR hlt hxs HAL
      rcases hexit with ⟨d1, d1'⟩ | ⟨d1, d1', d2⟩
      all_goals
        go_wp2_with fail
        go_loopw [9, 52] (fun c i wr => ∃ j q : Nat, j ≤ 40 ∧ q ≤ xs.length ∧ i = .int .i64 j ∧ c = .int .i64 q ∧ Hid (∃ x, OrT xs j q x ∧ Bes wr W.heap.size (w1.heap.size + 1) (.slice (some ⟨sb, 0, none⟩) xs.length scap) xs x ∧ Below W.heap.size W wr)) (fun _ i _ => 41 - (intOf i).toNat)
        case atStart => exact ⟨0, 0, by omega, by omega, rfl, rfl, HST⟩
        case round =>
          obtain ⟨j, q, hj, hq, rfl, rfl, HR⟩ := hrel
          clear HST
          obtain ⟨x, hor, hbe, hbw⟩ := HR.out
          have hj16 := hor.lt
          have dj : decide ((j : Int) < 40) = true := by simp; omega
          have HB := Lib.hid hbw
          have HBE := Lib.hid hbe
          obtain ⟨sb', hv', hbs', ho', hx'⟩ := hbe
          have hsb : sb = sb' := by
            injection hv'
          subst hsb
          have HT := Lib.hid (take_ex hx' hbw.size (by intro s hs; simp at hs; subst hs; exact (ho'.lt _ hv').1) 0)
          have HO := Lib.hid ho'
          have HV := Lib.hid hv'
          have HBS := Lib.hid hbs'
          cases hnx : nextM x 0 with
          | none =>
            have hend := hor.stop hnx
            have ht : takeI x 0 = (x, none) := takeI_none (x := x) (t := 0) (by have := hor.1; omega) hnx
            rw [ht, pkL_none] at HT
            clear hor hbw ho' hx' hv' hbs' HR hnx ht
            subst hend
            go_wp2_with fail
            refine HT.out.mono ?_
            rintro e w5 ⟨rfl, hx5, hf5⟩
            have hB5 := HB.out.trans (hf5.ex HB.out.size)
            have HB5 := Lib.hid (hB5.trans ((belowSelf w5 (.cells #[.int .i64 0, tx []] Tpk)).mono hB5.size))
            clear hx5 hf5 hB5 HT
            go_wp2_with fail
            go_ret
            exact ⟨rfl, HB5.out⟩
          | some f =>
            by_cases hf2 : f = 2
            · subst hf2
              obtain ⟨h1, h2, h3⟩ := hor.two hnx
              rw [h3, pkL_some] at HT
              obtain ⟨y, hy⟩ : ∃ y, y = xs.getD q [] := ⟨_, rfl⟩
              rw [← hy] at HT
              have HOR := Lib.hid h1
              have HY := Lib.hid hy
              have hql : (q : Int) < (xs.length : Int) := by omega
              have hge : ¬ (xs.length : Int) ≤ (q : Int) := by omega
              clear hor hbw ho' hx' hv' hbs' HR hnx h1 h3 hy
              go_wp2_with fail
              refine HT.out.mono ?_
              rintro e w5 ⟨rfl, hx5, hf5⟩
              have hB5 := HB.out.trans (hf5.ex HB.out.size)
              have hA := belowSelf w5 (.cells #[.int .i64 2, tx y] Tpk)
              have hbe5 := (Bes.call HV.out HBS.out HO.out hx5 hf5).below hA
              have HX : Hid (∃ x, OrT xs (j + 1) (q + 1) x ∧ Bes (w5.alloc (.cells #[.int .i64 2, tx y] Tpk)) W.heap.size (w1.heap.size + 1) (.slice (some ⟨sb, 0, none⟩) xs.length scap) xs x ∧ Below W.heap.size W (w5.alloc (.cells #[.int .i64 2, tx y] Tpk))) := Lib.hid ⟨_, HOR.out, hbe5, hB5.trans (hA.mono hB5.size)⟩
              obtain ⟨sb2, cap2, he2, hc2⟩ := hbe5.form
              injection he2 with e1 e2 e3
              injection e1 with e1
              injection e1 with e1 _ _
              subst e1
              have hcq := hc2 q h2
              rw [← HY.out] at hcq
              clear hx5 hf5 hB5 HT hA hbe5 hc2 e2 e3
              go_wp2_with fail
              go_quiet (fail)
              rename_i K hK
              refine hK _ _ ?_
              have HX2 : Hid (∃ x, OrT xs (j + 1) (q + 1) x ∧ Bes ((w5.alloc (.cells #[.int .i64 2, tx y] Tpk)).drewN nq) W.heap.size (w1.heap.size + 1) (.slice (some ⟨sb, 0, none⟩) xs.length scap) xs x ∧ Below W.heap.size W ((w5.alloc (.cells #[.int .i64 2, tx y] Tpk)).drewN nq)) := Lib.hid (by
                obtain ⟨x, g1, g2, g3⟩ := HX.out
                exact ⟨x, g1, g2.below (below_drewN (Below.refl _ _) nq), below_drewN g3 nq⟩)
              clear HX hcq
              go_wp2_with fail
              refine ⟨⟨j + 1, q + 1, by omega, by omega, by go_num, by go_num, HX2⟩, ?_⟩
              simp [intOf]; omega
            · obtain ⟨h1, h3, hf6⟩ := hor.other hnx hf2
              rw [h3, pkL_some] at HT
              obtain ⟨y, hy⟩ : ∃ y, y = (x.q 0 f).getD 0 [] := ⟨_, rfl⟩
              rw [← hy] at HT
              have HOR := Lib.hid h1
              have hfe : ((f : Int) == 2) = false := by
                have : (f : Int) ≠ 2 := by omega
                simpa using this
              clear hor hbw ho' hx' hv' hbs' HR hnx h1 h3 hy hf2
              go_wp2_with fail
              refine HT.out.mono ?_
              rintro e w5 ⟨rfl, hx5, hf5⟩
              have hB5 := HB.out.trans (hf5.ex HB.out.size)
              have hA := belowSelf w5 (.cells #[.int .i64 (f : Int), tx y] Tpk)
              have HX : Hid (∃ x, OrT xs (j + 1) q x ∧ Bes (w5.alloc (.cells #[.int .i64 (f : Int), tx y] Tpk)) W.heap.size (w1.heap.size + 1) (.slice (some ⟨sb, 0, none⟩) xs.length scap) xs x ∧ Below W.heap.size W (w5.alloc (.cells #[.int .i64 (f : Int), tx y] Tpk))) := Lib.hid ⟨_, HOR.out, (Bes.call HV.out HBS.out HO.out hx5 hf5).below hA, hB5.trans (hA.mono hB5.size)⟩
              clear hx5 hf5 hB5 HT hA
              go_wp2_with fail
              refine ⟨⟨j + 1, q, by omega, by omega, by go_num, rfl, HX⟩, ?_⟩
              simp [intOf]; omega
end Go.Proofs.Ytbkknhlagohhhaa
