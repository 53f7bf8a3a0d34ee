/-
  The reference's parts of the next level.
-/
import Derived.Test.YtjdhcanblpifcaaDoorMRef3
import Derived.Test.YtjdhcanblpifcaaDoorMRef4
import Derived.Test.YtjdhcanblpifcaaDoorMer9
namespace Go.Proofs.YtjdhcanblpifcaaDoor
open Go.RowKit Crv
abbrev Trob : TypeId := 53
abbrev Trsp : TypeId := 29
abbrev Trso : TypeId := 49
/-- An object of the reference in memory. -/
def robC (o : Ob) : List Value := [.int .i64 o.1, .string (str o.2.1), .string (str o.2.2)]
/-- The j-th group. -/
def gAt (ps : List Pt) (j : Nat) : List Pt := (ps.drop (8 * j)).take 8
theorem length_gAt (ps : List Pt) (j : Nat) : (gAt ps j).length = min 8 (ps.length - 8 * j) := by unfold gAt; rw [List.length_take, List.length_drop]
theorem grp_at (ps : List Pt) : grp ps = (List.range ((ps.length + 7) / 8)).map (gAt ps) := (gvs_parts ps.length ps (Nat.le_refl _)).symm
theorem grp_take (ps : List Pt) (j : Nat) (h : 8 * j < ps.length) : (grp ps).take (j + 1) = (grp ps).take j ++ [gAt ps j] := by
  rw [grp_at, ← List.map_take, ← List.map_take, List.take_range, List.take_range, Nat.min_eq_left (by omega), Nat.min_eq_left (by omega), List.range_succ, List.map_append]
  rfl
theorem grp_all (ps : List Pt) (j : Nat) (h : ps.length ≤ 8 * j) : (grp ps).take j = grp ps := List.take_of_length_le (by rw [grp_len]; omega)
theorem sl_grp (g off n cap p m : Nat) (hm : 0 < m) (hp : p + m ≤ n) (hn : n ≤ cap) (W : World) : (Instr.slice Trsp (.slice (some ⟨g, off, none⟩) n cap) (some (.int .i64 (p : Int))) (some (.int .i64 ((p + m : Nat) : Int))) none).run Tryd.prog W = .ok (.slice (some ⟨g, off + p * 2, none⟩) m (cap - p)) W := by
  have hne : ¬ cap = p := by omega
  have hsz : (sizeOf (Tryd.prog.elem Trsp)).run Tryd.prog W = .ok 2 W := by kernel_rfl
  have hel : Tryd.prog.underlying Trsp = some (.slice (Tryd.prog.elem Trsp)) := by kernel_rfl
  rw [run_slice_lh (P := Tryd.prog) W Trsp (some ⟨g, off, none⟩) n cap hel .i64 .i64 (p : Int) ((p + m : Nat) : Int) (by omega) (by omega) (by omega), hsz]
  simp only [Result.andThen, sliced, Int.toNat_natCast, if_neg hne, Nat.add_sub_cancel_left, Option.map_some, addr_add]
theorem rgroup {w : World} {g off cap : Nat} {ps : List Pt} (h : RPts w (.slice (some ⟨g, off, none⟩) ps.length cap) ps) (j c : Nat) (hc : min 8 (ps.length - 8 * j) ≤ c) : RPts w (.slice (some ⟨g, off + 8 * j * 2, none⟩) (gAt ps j).length c) (gAt ps j) := by
  obtain ⟨a, cap', hv, hcap, hr⟩ := h
  injection hv with hv1 _ _
  have hl := length_gAt ps j
  refine ⟨some ⟨g, off + 8 * j * 2, none⟩, c, by rw [List.length_map], by rw [List.length_map, hl]; exact hc, fun i hi => ?_⟩
  rw [List.length_map, hl] at hi
  obtain ⟨g', off', ha, hlt, hx⟩ := hr (8 * j + i) (by rw [List.length_map]; omega)
  rw [← hv1] at ha
  injection ha with ha
  injection ha with h1 h2
  subst h1 h2
  refine ⟨g, off + 8 * j * 2, rfl, hlt, ?_⟩
  rw [List.getElem_map] at hx ⊢
  unfold gAt
  rw [List.getElem_take, List.getElem_drop]
  rw [show off + 8 * j * 2 + i * 2 = off + (8 * j + i) * 2 from by omega]
  exact hx
theorem gAt_mem {ps : List Pt} {j : Nat} : ∀ p ∈ gAt ps j, p ∈ ps := fun _ hp => List.mem_of_mem_drop (List.mem_of_mem_take hp)
/-- The memory of up's loop. -/
def UW (w : World) (lv j : Nat) (ps : List Pt) (vp vo : Value) (W : World) : Prop :=
  Rw W w.heap.size Trp 2 vp (((grp ps).take j).map fun g => rpC (nodePt lv g)) ∧ Rw W w.heap.size Trob 3 vo (((grp ps).take j).map fun g => robC (mkOb 2 (txtN lv g))) ∧ Below w.heap.size w W
theorem UW.below {w : World} {lv j : Nat} {ps : List Pt} {vp vo : Value} {W W' : World} (h : UW w lv j ps vp vo W) (hb : Below W.heap.size W W') : UW w lv j ps vp vo W' := ⟨h.1.below hb, h.2.1.below hb, belowThen h.2.2 hb⟩
set_option maxRecDepth 100000 in
set_option maxHeartbeats 500000 in
theorem rup_any (lv g off cap : Nat) (ps : List Pt) (w : World) (hP : RPts w (.slice (some ⟨g, off, none⟩) ps.length cap) ps) (hcap : ps.length ≤ cap) (hn : ps.length ≤ 1000) (hlv : lv ≤ 100) (hsz : ∀ p ∈ ps, p.1.length = 32 ∧ 0 ≤ p.2 ∧ p.2 ≤ 1000000000) :
    Calls Tryd.prog 46 #[.int .i64 (lv : Int), .slice (some ⟨g, off, none⟩) ps.length cap] w fun e w' => ∃ vp vo, e = .returned (.tuple #[vp, vo]) ∧ Rw w' w.heap.size Trp 2 vp ((upP lv ps).map rpC) ∧ Rw w' w.heap.size Trob 3 vo ((upO lv ps).map robC) ∧ Below w.heap.size w w' := by
  obtain ⟨ip, hip, hiz, hisz, hiby⟩ : ∃ i, Tryd.prog.info? Trp = some i ∧ i.zero = some (.agg #[.string ⟨#[]⟩, .int .i64 0]) ∧ i.size = 2 ∧ i.bytes = 24 := info_of (by kernel_rfl)
  have HIP := Lib.hid hip
  have HIZ := Lib.hid hiz
  have HISZ := Lib.hid hisz
  have HIBY := Lib.hid hiby
  obtain ⟨io, hio, hoz, hosz, hoby⟩ : ∃ i, Tryd.prog.info? Trob = some i ∧ i.zero = some (.agg #[.int .i64 0, .string ⟨#[]⟩, .string ⟨#[]⟩]) ∧ i.size = 3 ∧ i.bytes = 40 := info_of (by kernel_rfl)
  have HIO := Lib.hid hio
  have HOZ := Lib.hid hoz
  have HOSZ := Lib.hid hosz
  have HOBY := Lib.hid hoby
  have HP := Lib.hid hP
  have HSZ := Lib.hid hsz
  have HU0 := Lib.hid (show UW w lv 0 ps (.slice (some ⟨w.heap.size, 0, none⟩) 0 0) (.slice (some ⟨w.heap.size + 1, 0, none⟩) 0 0) ((w.alloc (.cells #[] Trp)).alloc (.cells #[] Trob)) from
    ⟨(Rw.new Trp 2 (Nat.le_refl _)).below (belowSelf _ _), by have := Rw.new (w := w.alloc (.cells #[] Trp)) (base := w.heap.size) Trob 3 (by simp); simpa using this, belowThen (belowSelf w _) (belowSelf _ _)⟩)
  clear hip hiz hisz hiby hio hoz hosz hoby hP hsz
  go_enter Tryd.func46, Tryd.ntmps46
  go_wp2_with fail
  go_loopw [6, 7, 8] (fun vp vo i wr => ∃ j : Nat, 8 * j < ps.length + 8 ∧ i = .int .i64 ((8 * j : Nat) : Int) ∧ w.heap.size ≤ wr.heap.size ∧ Hid (UW w lv j ps vp vo wr)) (fun _ _ i _ => ps.length + 8 - (intOf i).toNat)
  case atStart => exact ⟨0, by omega, rfl, by simp; omega, HU0⟩
  case round =>
    clear HU0
    obtain ⟨j, hj, rfl, hszr, HU⟩ := hrel
    obtain ⟨wo, rfl⟩ : ∃ W, W = wr := ⟨_, rfl⟩
    obtain ⟨pa, pm, pp, rfl⟩ := HU.out.1.shape
    obtain ⟨oa, om, op, rfl⟩ := HU.out.2.1.shape
    by_cases hlt : 8 * j < ps.length
    · have hd : decide (8 * j < ps.length) = true := by simpa using hlt
      have hgl := length_gAt ps j
      have hgl8 : (gAt ps j).length ≤ 8 := by omega
      have hgl0 : 0 < (gAt ps j).length := by omega
      have HMN := Lib.hid (show min (((8 * j : Nat) : Int) + 8) (ps.length : Int) = ((8 * j + (gAt ps j).length : Nat) : Int) by omega)
      have hsl := fun W => sl_grp g off ps.length cap (8 * j) (gAt ps j).length hgl0 (by omega) hcap W
      rw [show ((8 * j + (gAt ps j).length : Nat) : Int) = ((8 * j : Nat) : Int) + ((gAt ps j).length : Int) from by push_cast; rfl] at HMN hsl
      have HG := Lib.hid (rgroup (HP.out.below HU.out.2.2) j (cap - 8 * j) (by omega))
      have HGS := Lib.hid (show ∀ p ∈ gAt ps j, p.1.length = 32 ∧ 0 ≤ p.2 ∧ p.2 ≤ 1000000000 from fun p hp => HSZ.out p (gAt_mem p hp))
      have HGG := Lib.hid (fun (W : World) (hb : Below w.heap.size w W) => rgroup (HP.out.below hb) j (cap - 8 * j) (by omega))
      have HGT := Lib.hid (grp_take ps j hlt)
      have HGP := Lib.hid (show ((grp ps).take (j + 1)).map (fun g => rpC (nodePt lv g)) = ((grp ps).take j).map (fun g => rpC (nodePt lv g)) ++ [rpC (oidOf 2 (txtN lv (gAt ps j)), sumP (gAt ps j))] by rw [HGT.out, List.map_append]; rfl)
      have HGO := Lib.hid (show ((grp ps).take (j + 1)).map (fun g => robC (mkOb 2 (txtN lv g))) = ((grp ps).take j).map (fun g => robC (mkOb 2 (txtN lv g))) ++ [[.int .i64 2, .string (str (oidOf 2 (txtN lv (gAt ps j)))), .string (str (txtN lv (gAt ps j)))]] by rw [HGT.out, List.map_append]; rfl)
      have HTX := Lib.hid (fun (W : World) (hg : RPts W (.slice (some ⟨g, off + 8 * j * 2, none⟩) (gAt ps j).length (cap - 8 * j)) (gAt ps j)) => rtext_any lv _ (gAt ps j) W hg hlv hgl8 HGS.out)
      have HTL := Lib.hid (show (txtN lv (gAt ps j)).length ≤ 1000 by
        unfold txtN
        have h1 := length_numOf (n := nat0 lv) (by unfold nat0; omega)
        have h2 := length_numOf (n := (gAt ps j).length) (by omega)
        have h3 := length_flatTxt (gAt ps j) (fun p hp => by have := HGS.out p hp; exact ⟨this.1, by omega⟩)
        rw [List.length_append, List.length_append]
        omega)
      have HOF := Lib.hid (fun W => refOfNode_any (txtN lv (gAt ps j)) W (by have := HTL.out; omega))
      rw [show sha ([99, 114, 118] ++ headOf 2 (txtN lv (gAt ps j)).length ++ txtN lv (gAt ps j)) = oidOf 2 (txtN lv (gAt ps j)) from rfl] at HOF
      have HL1 := Lib.hid (show (((grp ps).take j).map (fun g => rpC (nodePt lv g))).length ≤ 900000000 by rw [List.length_map, List.length_take, grp_len]; omega)
      have HL2 := Lib.hid (show (((grp ps).take j).map (fun g => robC (mkOb 2 (txtN lv g)))).length ≤ 900000000 by rw [List.length_map, List.length_take, grp_len]; omega)
      obtain ⟨T, hT⟩ : ∃ t, t = txtN lv (gAt ps j) := ⟨_, rfl⟩
      rw [← hT] at HGP HGO HTX HOF
      obtain ⟨R, hR⟩ : ∃ t, t = oidOf 2 T := ⟨_, rfl⟩
      rw [← hR] at HGP HGO HOF
      obtain ⟨G, hG⟩ : ∃ t, t = gAt ps j := ⟨_, rfl⟩
      rw [← hG] at HGP HTX HG HGG HGS hsl HMN hgl8 hgl0
      clear hT hR hG hgl HGT HTL
      obtain ⟨i8, hi8⟩ : ∃ i, i = 8 * j := ⟨_, rfl⟩
      rw [← hi8] at hd hsl HMN HG HGG HTX hlt ⊢
      have HI8 := Lib.hid hi8
      clear hi8
      go_wp2_with (first
        | (refine wp_min0 (c := (i8 : Int) + 8) (d := (ps.length : Int)) (.tmp 26) (.tmp 28) HMN.out rfl rfl rfl rfl ?_)
        | fail)
      obtain ⟨W1, hW1⟩ : ∃ W, W = wo.alloc (.cells #[.int .i64 (lv : Int), .slice (some ⟨g, off + i8 * 2, none⟩) G.length (cap - i8)] Trn) := ⟨_, rfl⟩
      have HM1 := Lib.hid (show Mem W1 wo.heap.size Trn [.int .i64 (lv : Int), .slice (some ⟨g, off + i8 * 2, none⟩) G.length (cap - i8)] by rw [hW1]; exact Mem.new wo _ _)
      have HB1 := Lib.hid (show Below wo.heap.size wo W1 by rw [hW1]; exact belowSelf wo _)
      have HG1 := Lib.hid (HG.out.below HB1.out)
      rw [← hW1]
      have hz1 : W1.heap.size = wo.heap.size + 1 := by rw [hW1]; simp
      clear hW1 hsl hd
      go_loopw [10, 35] (fun s i wx => ∃ k : Nat, k ≤ G.length ∧ i = .int .i64 k ∧ s = .int .i64 (sumP (G.take k)) ∧ 0 ≤ sumP (G.take k) ∧ sumP (G.take k) ≤ 1000000000 * (k : Int) ∧ Hid (Below W1.heap.size W1 wx)) (fun _ i _ => G.length - (intOf i).toNat)
      case atStart => exact ⟨0, by omega, rfl, rfl, by simp [sumP], by simp [sumP], Lib.hid (Below.refl _ _)⟩
      case round =>
        obtain ⟨k, hk, rfl, rfl, hs0, hs1, HBX⟩ := hrel
        by_cases hltk : k < G.length
        · obtain ⟨a', cap', hv', -, hc'⟩ := (HG1.out.below HBX.out).form
          injection hv' with h1 h2 h3
          obtain ⟨g', off', ha, hgl', hx0, hx1⟩ := hc' k hltk
          injection ha.symm.trans h1.symm with ha
          injection ha with ha1 ha2
          subst ha1 ha2
          have hpk := HGS.out _ (List.getElem_mem hltk)
          have HSUM := Lib.hid (sumP_take_succ G k hltk)
          obtain ⟨x, z, hp⟩ : ∃ x z, G[k] = (x, z) := ⟨_, _, rfl⟩
          rw [hp] at hx0 hx1 HSUM hpk
          simp only at hx0 hx1 HSUM hpk
          obtain ⟨q, hq⟩ : ∃ q, q = sumP (G.take k) := ⟨_, rfl⟩
          rw [← hq] at hs0 hs1 HSUM ⊢
          have hdk : decide (k < G.length) = true := by simpa using hltk
          clear hp h1 h2 h3 hc' hq
          go_wp2_with fail
          go_roundw
          case rel => exact ⟨k + 1, by omega, by go_num, by rw [HSUM.out], by rw [HSUM.out]; omega, by rw [HSUM.out]; push_cast; omega, Lib.hid (belowThen HBX.out (belowSelf _ _))⟩
          case measure => simp [intOf]; omega
        · have ek : k = G.length := by omega
          subst ek
          have hdk : decide (G.length < G.length) = false := by simp
          rw [List.take_length] at hs0 hs1 ⊢
          obtain ⟨q, hq⟩ : ∃ q, q = sumP G := ⟨_, rfl⟩
          rw [← hq] at hs0 hs1 HGP ⊢
          have HMX := Lib.hid (HM1.out.below HBX.out HM1.out.lt)
          have HBWX := Lib.hid (belowThen HB1.out HBX.out)
          have HTX1 := Lib.hid (HTX.out wr (HG1.out.below HBX.out))
          have n0 : wr.cell? ⟨wo.heap.size, 0, none⟩ = some (.int .i64 (lv : Int)) := HMX.out.cell 0
          have n1 : wr.cell? ⟨wo.heap.size, 1, none⟩ = some (.slice (some ⟨g, off + i8 * 2, none⟩) G.length (cap - i8)) := HMX.out.cell 1
          clear hq
          go_wp2_with fail
          refine HTX1.out.mono ?_
          rintro e w3 ⟨rfl, hb3⟩
          clear n0 n1 HTX1
          go_wp2_with fail
          refine (HOF.out _).mono ?_
          rintro e w4 ⟨rfl, hb4⟩
          have HB4 := Lib.hid (belowThen (belowThen HBWX.out hb3) hb4)
          have HM4 := Lib.hid ((HMX.out.below hb3 HMX.out.lt).below hb4 (HMX.out.below hb3 HMX.out.lt).lt)
          have HU4 := Lib.hid (HU.out.below HB4.out)
          have hz4 : wo.heap.size < w4.heap.size := HM4.out.lt
          have HUA := Lib.hid (HU4.out.below (belowSelf w4 (.cells (rpC (R, q)).toArray Trp)))
          clear hb3 hb4
          go_wp2_with (first
            | (at_builtin
               refine wp_append_row (w0 := w) HUA.out.1 w.heap.size HUA.out.2.2 (Nat.le_refl _) (rpC (R, q)) (by decide) rfl (by simp [rpC, Value.oneCell']) (.tmp 47) (.tmp 51) Trsp ip _ 24 rfl rfl Tryd.underlying29 HIP.out HIZ.out HISZ.out HIBY.out rfl (by decide) rfl (g := w4.heap.size) (c := 1) rfl (fun j u hu => ((Mem.new w4 Trp (rpC (R, q))).cell j).trans hu) HL1.out (by simp; omega) ?_
               intro vA wA hrA hbA hsA hgA hatA
               rw [← HGP.out] at hrA
               obtain ⟨pa', pm', pp', rfl⟩ := hrA.shape
               have HQA := Lib.hid (show Rw wA w.heap.size Trp 2 (.slice pa' pm' pp') (((grp ps).take (j + 1)).map fun g => rpC (nodePt lv g)) ∧ Rw wA w.heap.size Trob 3 (.slice oa om op) (((grp ps).take j).map fun g => robC (mkOb 2 (txtN lv g))) ∧ Below w.heap.size w wA from ⟨hrA, HUA.out.2.1.grow_tag HUA.out.1 (by decide) hgA, hbA⟩)
               have HMA := Lib.hid ((HM4.out.alloc (.cells (rpC (R, q)).toArray Trp)).grown hgA (fun e => by have h1 := (HU.out.1.lt _ e.symm).1; omega))
               have n0 : wA.cell? ⟨wo.heap.size, 0, none⟩ = some (.int .i64 (lv : Int)) := HMA.out.cell 0
               have n1 : wA.cell? ⟨wo.heap.size, 1, none⟩ = some (.slice (some ⟨g, off + i8 * 2, none⟩) G.length (cap - i8)) := HMA.out.cell 1
               have hzA : wo.heap.size < wA.heap.size := HMA.out.lt
               have HTX2 := Lib.hid (HTX.out wA (HGG.out wA hbA))
               clear hrA hbA hsA hgA hatA)
            | fail)
          refine HTX2.out.mono ?_
          rintro e w5 ⟨rfl, hb5⟩
          have hz5 : wo.heap.size < w5.heap.size := by have := hb5.size; omega
          have HQ5 := Lib.hid (show Rw w5 w.heap.size Trp 2 (.slice pa' pm' pp') (((grp ps).take (j + 1)).map fun g => rpC (nodePt lv g)) ∧ Rw w5 w.heap.size Trob 3 (.slice oa om op) (((grp ps).take j).map fun g => robC (mkOb 2 (txtN lv g))) ∧ Below w.heap.size w w5 from ⟨HQA.out.1.below hb5, HQA.out.2.1.below hb5, belowThen HQA.out.2.2 hb5⟩)
          have HOW := Lib.hid (show Rw (w5.alloc (.cells (robC (2, R, T)).toArray Trob)) w.heap.size Trob 3 (.slice oa om op) (((grp ps).take j).map fun g => robC (mkOb 2 (txtN lv g))) ∧ Below w.heap.size w (w5.alloc (.cells (robC (2, R, T)).toArray Trob)) from ⟨HQ5.out.2.1.below (belowSelf _ _), belowThen HQ5.out.2.2 (belowSelf _ _)⟩)
          clear n0 n1 hb5 HTX2 HQA
          go_wp2_with (first
            | (at_builtin
               refine wp_append_row (w0 := w) HOW.out.1 w.heap.size HOW.out.2 (Nat.le_refl _) (robC (2, R, T)) (by decide) rfl (by simp [robC, Value.oneCell']) (.tmp 53) (.tmp 58) Trso io _ 40 rfl rfl Tryd.underlying49 HIO.out HOZ.out HOSZ.out HOBY.out rfl (by decide) rfl (g := w5.heap.size) (c := 1) rfl (fun j u hu => ((Mem.new w5 Trob (robC (2, R, T))).cell j).trans hu) HL2.out (by simp; omega) ?_
               intro vB wB hrB hbB hsB hgB hatB
               rw [show robC (2, R, T) = [.int .i64 2, .string (str R), .string (str T)] from rfl, ← HGO.out] at hrB
               obtain ⟨oa', om', op', rfl⟩ := hrB.shape
               have HQB := Lib.hid (show UW w lv (j + 1) ps (.slice pa' pm' pp') (.slice oa' om' op') wB from ⟨(HQ5.out.1.below (belowSelf _ _)).grow_tag HOW.out.1 (by decide) hgB, hrB, hbB⟩)
               have hzB : w.heap.size ≤ wB.heap.size := by simp at hsB; omega
               clear hrB hbB hsB hgB hatB)
            | fail)
          go_roundw
          case rel => exact ⟨j + 1, by have := HI8.out; omega, by rw [HI8.out]; go_num, hzB, HQB⟩
          case measure => simp [intOf]; omega
    · have hd : decide (8 * j < ps.length) = false := by simpa using hlt
      have HE := Lib.hid HU.out
      unfold UW at HE
      rw [grp_all ps j (by omega)] at HE
      go_wp2_with fail
      ((try simp only [Exit.inBlock, Exit.then]); refine bodyPost_ret (results_tmp2 rfl _ _ _) rfl ?_)
      refine ⟨_, _, rfl, ?_, ?_, HE.out.2.2⟩
      · unfold upP; rw [List.map_map]; exact HE.out.1
      · unfold upO; rw [List.map_map]; exact HE.out.2.1
end Go.Proofs.YtjdhcanblpifcaaDoor
