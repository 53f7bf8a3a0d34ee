/-
  The reference's Build.
-/
import Derived.Test.YtjdhcanblpifcaaDoorMRef5
import Derived.Test.YtjdhcanblpifcaaDoorMDep0
namespace Go.Proofs.YtjdhcanblpifcaaDoor
open Go.RowKit Crv
def rbP (cs : List (List UInt8)) : List Value := if chkC cs = 0 then rpC (rootPt cs) else [.string (str []), .int .i64 0]
def rbO (cs : List (List UInt8)) : List Ob := if chkC cs = 0 then allObs cs else []
/-- The memory of Build's loops. -/
def RBW (w : World) (ps : List Pt) (os : List Ob) (vp vo : Value) (W : World) : Prop :=
  Rw W (w.heap.size + 1) Trp 2 vp (ps.map rpC) ∧ Rw W (w.heap.size + 1) Trob 3 vo (os.map robC) ∧ Mem W w.heap.size Trp [.string (str []), .int .i64 0] ∧ Below w.heap.size w W
theorem RBW.below {w : World} {ps : List Pt} {os : List Ob} {vp vo : Value} {W W' : World} (h : RBW w ps os vp vo W) (hb : Below W.heap.size W W') : RBW w ps os vp vo W' := ⟨h.1.below hb, h.2.1.below hb, h.2.2.1.below hb h.2.2.1.lt, belowThen h.2.2.2 hb⟩
theorem chkC_bad {cs : List (List UInt8)} {x : List UInt8} (hx : x ∈ cs) (h : ¬ okC x) : chkC cs = 10 := by
  unfold chkC
  rw [if_neg (fun e => by rw [e] at hx; simp at hx), if_pos (fun hall => h (hall x hx))]
set_option maxRecDepth 100000 in
set_option maxHeartbeats 600000 in
theorem rbuild_any (v : Value) (cs : List (List UInt8)) (w : World) (hv : Txs w v cs) (hn : cs.length ≤ 1000) :
    Calls Tryd.prog 16 #[v] w fun e w' => ∃ vo, e = .returned (.tuple #[.agg (rbP cs).toArray, vo, .int .i64 (chkC cs)]) ∧ Rw w' w.heap.size Trob 3 vo ((rbO cs).map robC) ∧ Below w.heap.size w w' := by
  obtain ⟨ip, hip, hiz, hisz, hiby⟩ : ∃ i, Tryd.prog.info? Trp = some i ∧ i.zero = some (.agg #[.string ⟨#[]⟩, .int .i64 0]) ∧ i.size = 2 ∧ i.bytes = 24 := info_of (by kernel_rfl)
  have HIP := Lib.hid hip
  have HIZ := Lib.hid hiz
  have HISZ := Lib.hid hisz
  have HIBY := Lib.hid hiby
  obtain ⟨io, hio, hoz, hosz, hoby⟩ : ∃ i, Tryd.prog.info? Trob = some i ∧ i.zero = some (.agg #[.int .i64 0, .string ⟨#[]⟩, .string ⟨#[]⟩]) ∧ i.size = 3 ∧ i.bytes = 40 := info_of (by kernel_rfl)
  have HIO := Lib.hid hio
  have HOZ := Lib.hid hoz
  have HOSZ := Lib.hid hosz
  have HOBY := Lib.hid hoby
  have HV := Lib.hid hv
  obtain ⟨a, cap, rfl, -⟩ := hv
  have SZ := Lib.hid (show (Tryd.prog.info? Trp).map (·.size) = some 2 by kernel_rfl)
  have HR0 := Lib.hid (show RBW w (chunkPts (cs.take 0)) (chunkObs (cs.take 0)) (.slice (some ⟨w.heap.size + 1, 0, none⟩) 0 0) (.slice (some ⟨w.heap.size + 1 + 1, 0, none⟩) 0 0) (((w.alloc (.cells #[.string (str []), .int .i64 0] Trp)).alloc (.cells #[] Trp)).alloc (.cells #[] Trob)) from
    ⟨by have := (Rw.new (w := w.alloc (.cells #[.string (str []), .int .i64 0] Trp)) (base := w.heap.size + 1) Trp 2 (by simp)).below (belowSelf _ (.cells #[] Trob)); simpa [chunkPts] using this, by have := Rw.new (w := (w.alloc (.cells #[.string (str []), .int .i64 0] Trp)).alloc (.cells #[] Trp)) (base := w.heap.size + 1) Trob 3 (by simp); simpa [chunkObs] using this, ((Mem.new w Trp [.string (str []), .int .i64 0]).alloc _).alloc _, belowThen (belowThen (belowSelf w _) (belowSelf _ _)) (belowSelf _ _)⟩)
  clear hip hiz hisz hiby hio hoz hosz hoby
  go_enter Tryd.func16, Tryd.ntmps16
  go_wp2_with fail
  go_loopw [5, 6, 7, 18] (fun vp vo s i wr => ∃ k : Nat, k ≤ cs.length ∧ i = .int .i64 k ∧ s = .int .i64 (sumC (cs.take k) : Int) ∧ sumC (cs.take k) ≤ 256 * k ∧ w.heap.size + 1 ≤ wr.heap.size ∧ Hid (∀ c ∈ cs.take k, okC c) ∧ Hid (RBW w (chunkPts (cs.take k)) (chunkObs (cs.take k)) vp vo wr)) (fun _ _ _ i _ => cs.length - (intOf i).toNat)
  case atStart => exact ⟨0, by omega, rfl, rfl, by simp [sumC], by simp, Lib.hid (by simp), HR0⟩
  case round =>
    clear HR0
    obtain ⟨k, hk, rfl, rfl, hsm, hszr, HALL, HR⟩ := hrel
    obtain ⟨pa, pm, pp, rfl⟩ := HR.out.1.shape
    obtain ⟨oa, om, op, rfl⟩ := HR.out.2.1.shape
    by_cases hlt : k < cs.length
    · obtain ⟨a', cap', hv', hc'⟩ := HV.out.below HR.out.2.2.2
      injection hv' with h1 h2 h3
      obtain ⟨b, off, ha, hcell⟩ := hc' k hlt
      rw [← h1] at ha
      subst ha
      have HSUM := Lib.hid (sumC_take_succ cs k hlt)
      have HTK := Lib.hid (take_succ_getD cs k hlt)
      have HMEM := Lib.hid (show cs.getD k [] ∈ cs by rw [List.getD_eq_getElem?_getD, List.getElem?_eq_getElem hlt]; exact List.getElem_mem hlt)
      obtain ⟨x, hx⟩ : ∃ x, x = cs.getD k [] := ⟨_, rfl⟩
      rw [← hx] at hcell HSUM HTK HMEM
      have hdk : decide (k < cs.length) = true := by simpa using hlt
      clear h1 h2 h3 hc' hx
      obtain ⟨c0, c1, f0, f1⟩ := memTwo HR.out.2.2.1
      by_cases hok : okC x
      · obtain ⟨hx0, hx1⟩ := hok
        have hd1 : decide ((x.length : Int) < 1) = false := by simp; omega
        have hd2 : decide (256 < x.length) = false := by simp; omega
        have HOF := Lib.hid (fun W => refOfOid_any x W (by omega))
        rw [show sha ([99, 114, 118] ++ headOf 1 x.length ++ x) = oidOf 1 x from rfl] at HOF
        have HPT := Lib.hid (show (chunkPts (cs.take (k + 1))).map rpC = (chunkPts (cs.take k)).map rpC ++ [rpC (oidOf 1 x, (x.length : Int))] by rw [HTK.out]; simp [chunkPts])
        have HOB := Lib.hid (show (chunkObs (cs.take (k + 1))).map robC = (chunkObs (cs.take k)).map robC ++ [[.int .i64 1, .string (str (oidOf 1 x)), .string (str x)]] by rw [HTK.out]; simp [chunkObs, mkOb, robC])
        have HNX := Lib.hid (show ∀ c ∈ cs.take (k + 1), okC c from fun c hc => by
          rw [HTK.out] at hc
          rcases List.mem_append.1 hc with hc | hc
          · exact HALL.out c hc
          · simp only [List.mem_singleton] at hc
            rw [hc]
            exact ⟨hx0, hx1⟩)
        have HL1 := Lib.hid (show ((chunkPts (cs.take k)).map rpC).length ≤ 900000000 by rw [List.length_map, length_chunkPts, List.length_take]; omega)
        have HL2 := Lib.hid (show ((chunkObs (cs.take k)).map robC).length ≤ 900000000 by unfold chunkObs; rw [List.length_map, List.length_map, List.length_take]; omega)
        obtain ⟨R, hR⟩ : ∃ t, t = oidOf 1 x := ⟨_, rfl⟩
        rw [← hR] at HOF HPT HOB
        obtain ⟨sm, hsm'⟩ : ∃ t, t = sumC (cs.take k) := ⟨_, rfl⟩
        rw [← hsm'] at hsm HSUM ⊢
        clear c0 c1 f0 f1 hR hsm' HTK
        go_wp2_with fail
        refine (HOF.out _).mono ?_
        rintro e w4 ⟨rfl, hb4⟩
        have HU4 := Lib.hid (HR.out.below hb4)
        have hz4 : w.heap.size + 1 ≤ w4.heap.size := by have := hb4.size; omega
        have HUA := Lib.hid (HU4.out.below (belowSelf w4 (.cells (rpC (R, (x.length : Int))).toArray Trp)))
        clear hb4
        go_wp2_with (first
          | (at_builtin
             refine wp_append_row (w0 := w) HUA.out.1 w.heap.size HUA.out.2.2.2 (by omega) (rpC (R, (x.length : Int))) (by decide) rfl (by simp [rpC, Value.oneCell']) (.tmp 33) (.tmp 38) Trsp ip _ 24 rfl rfl Tryd.underlying29 HIP.out HIZ.out HISZ.out HIBY.out rfl (by decide) rfl (g := w4.heap.size) (c := 1) rfl (fun j u hu => ((Mem.new w4 Trp (rpC (R, (x.length : Int)))).cell j).trans hu) HL1.out (by simp; omega) ?_
             intro vA wA hrA hbA hsA hgA hatA
             rw [← HPT.out] at hrA
             obtain ⟨pa', pm', pp', rfl⟩ := hrA.shape
             have HQA := Lib.hid (show RBW w (chunkPts (cs.take (k + 1))) (chunkObs (cs.take k)) (.slice pa' pm' pp') (.slice oa om op) wA from ⟨hrA, HUA.out.2.1.grow_tag HUA.out.1 (by decide) hgA, HUA.out.2.2.1.grown hgA (fun e => by have := (HUA.out.1.lt _ e.symm).2; omega), hbA⟩)
             have hzA : w.heap.size + 1 ≤ wA.heap.size := by simp at hsA; omega
             have HUB := Lib.hid (HQA.out.below (belowSelf wA (.cells (robC (1, R, x)).toArray Trob)))
             clear hrA hbA hsA hgA hatA)
          | (at_builtin
             refine wp_append_row (w0 := w) HUB.out.2.1 w.heap.size HUB.out.2.2.2 (by omega) (robC (1, R, x)) (by decide) rfl (by simp [robC, Value.oneCell']) (.tmp 40) (.tmp 44) Trso io _ 40 rfl rfl Tryd.underlying49 HIO.out HOZ.out HOSZ.out HOBY.out rfl (by decide) rfl (g := wA.heap.size) (c := 1) rfl (fun j u hu => ((Mem.new wA Trob (robC (1, R, x))).cell j).trans hu) HL2.out (by simp; omega) ?_
             intro vB wB hrB hbB hsB hgB hatB
             rw [show robC (1, R, x) = [.int .i64 1, .string (str R), .string (str x)] from rfl, ← HOB.out] at hrB
             obtain ⟨oa', om', op', rfl⟩ := hrB.shape
             have HQB := Lib.hid (show RBW w (chunkPts (cs.take (k + 1))) (chunkObs (cs.take (k + 1))) (.slice pa' pm' pp') (.slice oa' om' op') wB from ⟨HUB.out.1.grow_tag HUB.out.2.1 (by decide) hgB, hrB, HUB.out.2.2.1.grown hgB (fun e => by have := (HUB.out.2.1.lt _ e.symm).2; omega), hbB⟩)
             have hzB : w.heap.size + 1 ≤ wB.heap.size := by simp at hsB; omega
             clear hrB hbB hsB hgB hatB)
          | fail)
        go_roundw
        case rel => exact ⟨k + 1, by omega, by go_num, by rw [HSUM.out]; go_num, by rw [HSUM.out]; omega, hzB, HNX, HQB⟩
        case measure => simp [intOf]; omega
      · have HCK := Lib.hid (chkC_bad HMEM.out hok)
        by_cases hx0 : x.length = 0
        · have hd1 : decide ((x.length : Int) < 1) = true := by simp; omega
          go_wp2_with fail
          have HM9 := Lib.hid ((HR.out.2.2.1.set 0 (.string (str []))).set 1 (.int .i64 0))
          have HB9 := Lib.hid ((HR.out.2.2.2.setCell (p := ⟨w.heap.size, 0, none⟩) (Nat.le_refl _) (.string (str []))).setCell (p := ⟨w.heap.size, 1, none⟩) (Nat.le_refl _) (.int .i64 0))
          refine bodyPost_ret (resultsCell3 HM9.out rfl _ _ rfl Tryd.underlying48 rfl SZ.out) rfl ⟨.slice none 0 0, ?_, ?_, HB9.out⟩
          · unfold rbP; rw [HCK.out, if_neg (by decide)]; rfl
          · unfold rbO; rw [HCK.out, if_neg (by decide)]; exact Rw.nil _ _ _ _
        · have hd1 : decide ((x.length : Int) < 1) = false := by simp; omega
          have hd2 : decide (256 < x.length) = true := by simp; exact Decidable.byContradiction fun hc => hok ⟨hx0, by omega⟩
          have hd3 : decide ((256 : Int) < (x.length : Int)) = true := by simp at hd2 ⊢; omega
          go_wp2_with fail
          have HM9 := Lib.hid ((HR.out.2.2.1.set 0 (.string (str []))).set 1 (.int .i64 0))
          have HB9 := Lib.hid ((HR.out.2.2.2.setCell (p := ⟨w.heap.size, 0, none⟩) (Nat.le_refl _) (.string (str []))).setCell (p := ⟨w.heap.size, 1, none⟩) (Nat.le_refl _) (.int .i64 0))
          refine bodyPost_ret (resultsCell3 HM9.out rfl _ _ rfl Tryd.underlying48 rfl SZ.out) rfl ⟨.slice none 0 0, ?_, ?_, HB9.out⟩
          · unfold rbP; rw [HCK.out, if_neg (by decide)]; rfl
          · unfold rbO; rw [HCK.out, if_neg (by decide)]; exact Rw.nil _ _ _ _
    · have ek : k = cs.length := by omega
      subst ek
      rw [List.take_length] at hsm HALL HR ⊢
      have hdk : decide (cs.length < cs.length) = false := by simp
      obtain ⟨a', c', hv', -, -⟩ := HR.out.1.rd
      injection hv' with h1 h2 h3
      clear h1 h3
      rw [List.length_map, length_chunkPts] at h2
      subst h2
      clear hszr
      obtain ⟨c0, c1, f0, f1⟩ := memTwo HR.out.2.2.1
      by_cases hl0 : cs.length = 0
      · have HCK := Lib.hid (show chkC cs = 10 by unfold chkC; rw [if_pos (List.eq_nil_of_length_eq_zero hl0)])
        have hd0 : ((cs.length : Int) == 0) = true := by rw [hl0]; rfl
        go_wp2_with fail
        have HM9 := Lib.hid ((HR.out.2.2.1.set 0 (.string (str []))).set 1 (.int .i64 0))
        have HB9 := Lib.hid ((HR.out.2.2.2.setCell (p := ⟨w.heap.size, 0, none⟩) (Nat.le_refl _) (.string (str []))).setCell (p := ⟨w.heap.size, 1, none⟩) (Nat.le_refl _) (.int .i64 0))
        refine bodyPost_ret (resultsCell3 HM9.out rfl _ _ rfl Tryd.underlying48 rfl SZ.out) rfl ⟨.slice none 0 0, ?_, ?_, HB9.out⟩
        · unfold rbP; rw [HCK.out, if_neg (by decide)]; rfl
        · unfold rbO; rw [HCK.out, if_neg (by decide)]; exact Rw.nil _ _ _ _
      · have hd0 : ((cs.length : Int) == 0) = false := by rw [beq_eq_false_iff_ne]; omega
        have hne : cs ≠ [] := fun e => hl0 (by rw [e]; rfl)
        have hpos : 1 ≤ cs.length := by omega
        by_cases hbig : 32768 < sumC cs
        · have HCK := Lib.hid (show chkC cs = 5 by unfold chkC; rw [if_neg hne, if_neg (Decidable.not_not.2 HALL.out), if_pos hbig])
          have hdb : decide (32768 < sumC cs) = true := by simpa using hbig
          have hdb2 : decide ((32768 : Int) < (sumC cs : Int)) = true := by simp; omega
          obtain ⟨sm, hsm'⟩ : ∃ t, t = sumC cs := ⟨_, rfl⟩
          rw [← hsm'] at hsm hdb hdb2 ⊢
          clear hsm'
          go_wp2_with fail
          have HM9 := Lib.hid ((HR.out.2.2.1.set 0 (.string (str []))).set 1 (.int .i64 0))
          have HB9 := Lib.hid ((HR.out.2.2.2.setCell (p := ⟨w.heap.size, 0, none⟩) (Nat.le_refl _) (.string (str []))).setCell (p := ⟨w.heap.size, 1, none⟩) (Nat.le_refl _) (.int .i64 0))
          refine bodyPost_ret (resultsCell3 HM9.out rfl _ _ rfl Tryd.underlying48 rfl SZ.out) rfl ⟨.slice none 0 0, ?_, ?_, HB9.out⟩
          · unfold rbP; rw [HCK.out, if_neg (by decide)]; rfl
          · unfold rbO; rw [HCK.out, if_neg (by decide)]; exact Rw.nil _ _ _ _
        · have HCK := Lib.hid (show chkC cs = 0 by unfold chkC; rw [if_neg hne, if_neg (Decidable.not_not.2 HALL.out), if_neg hbig])
          have hdb : decide (32768 < sumC cs) = false := by simpa using hbig
          have hdb2 : decide ((32768 : Int) < (sumC cs : Int)) = false := by simp; omega
          obtain ⟨sm, hsm'⟩ : ∃ t, t = sumC cs := ⟨_, rfl⟩
          rw [← hsm'] at hsm hdb hdb2 ⊢
          have hd4 : depthOf cs.length ≤ 4 := depthOf_le 3 cs.length (by omega)
          have hd1 := depthOf_pos cs.length
          have HLEN := Lib.hid (show ∀ j, (bP (chunkPts cs) j).length = lenAt cs.length j from fun j => by rw [length_bP, length_chunkPts])
          have HSZS := Lib.hid (show ∀ j, j ≤ 4 → ∀ p ∈ bP (chunkPts cs) j, p.1.length = 32 ∧ 0 ≤ p.2 ∧ p.2 ≤ 1000000000 from fun j hj p hp => by
            have h1 := bP_sizes (ps := chunkPts cs) (chunkPts_sizes HALL.out) j p hp
            have h2 : 256 * 8 ^ j ≤ 256 * 8 ^ 4 := Nat.mul_le_mul_left _ (Nat.pow_le_pow_right (by omega) hj)
            have h3 : 256 * 8 ^ 4 = 1048576 := by decide
            exact ⟨bP_names (chunkPts_names cs) j p hp, by omega, by omega⟩)
          have HBO := Lib.hid (fun j => nodesTo_le cs.length hn j)
          have HBOL := Lib.hid (show ∀ j, (chunkObs cs ++ bO (chunkPts cs) j).length = cs.length + nodesTo cs.length j from fun j => by unfold chunkObs; rw [List.length_append, length_bO, length_chunkPts, List.length_map])
          have HR2 := Lib.hid (show RBW w (bP (chunkPts cs) 0) (chunkObs cs ++ bO (chunkPts cs) 0) (.slice pa cs.length pp) (.slice oa om op) wr by have := HR.out; simpa [bP, bO] using this)
          have hszr : w.heap.size + 1 ≤ wr.heap.size := by have := HR.out.2.2.1.lt; omega
          obtain ⟨d, hde⟩ : ∃ d, d = depthOf cs.length := ⟨_, rfl⟩
          rw [← hde] at hd4 hd1
          have HDE := Lib.hid hde
          clear hsm' c0 c1 f0 f1 hde hne
          go_wp2_with fail
          go_loopw [5, 6, 11] (fun vp vo i wr2 => ∃ j : Nat, j ≤ d ∧ i = .int .i64 ((j : Int) + 1) ∧ w.heap.size + 1 ≤ wr2.heap.size ∧ Hid (RBW w (bP (chunkPts cs) j) (chunkObs cs ++ bO (chunkPts cs) j) vp vo wr2)) (fun _ _ i _ => d + 1 - (intOf i).toNat)
          case atStart => exact ⟨0, by omega, rfl, hszr, HR2⟩
          case round =>
            clear HR2 HR hszr
            obtain ⟨j, hj, rfl, hszr, HR⟩ := hrel
            have hlj := HLEN.out j
            have hlp : 1 ≤ lenAt cs.length j := lenAt_pos hpos j
            have hlm : lenAt cs.length j ≤ 1000 := (HBO.out j).2
            obtain ⟨gp, capp, hvp, hcapp, HNW⟩ := HR.out.1.front (by rw [List.length_map]; omega)
            obtain ⟨oa2, om2, op2, hvo⟩ := HR.out.2.1.shape
            subst hvo
            rw [List.length_map, hlj] at hvp hcapp
            subst hvp
            have hd9 : decide ((j : Int) + 1 < 9) = true := by simp; omega
            by_cases hlt : j < d
            · have hcase : (((j : Int) + 1) == 1) = true ∨ ((((j : Int) + 1) == 1) = false ∧ decide ((1 : Int) < (lenAt cs.length j : Int)) = true) := by
                by_cases hj0 : j = 0
                · exact .inl (by rw [hj0]; rfl)
                · exact .inr ⟨by rw [beq_eq_false_iff_ne]; omega, by have := lenAt_more cs.length cs.length j (Nat.le_refl _) (by omega) (by rw [← HDE.out]; exact hlt); simp; omega⟩
              have HUP := Lib.hid (rup_any (j + 1) gp 0 capp (bP (chunkPts cs) j) wr (by have := HR.out.1.rd; rw [← hlj] at this; exact this) (by omega) (by omega) (by omega) (HSZS.out j (by omega)))
              rw [show (((j + 1 : Nat) : Nat) : Int) = (j : Int) + 1 from by push_cast; rfl, hlj] at HUP
              have hup : (upO (j + 1) (bP (chunkPts cs) j)).length = lenAt cs.length (j + 1) := by
                rw [← HLEN.out (j + 1)]; simp [upO, bP, upP]
              have HLO := Lib.hid (show ((chunkObs cs ++ bO (chunkPts cs) j).map robC).length + ((upO (j + 1) (bP (chunkPts cs) j)).map robC).length ≤ 1000000000 by
                have h1 := (HBO.out j).1
                have h2 := (HBO.out (j + 1)).2
                rw [List.length_map, List.length_map, hup, HBOL.out]
                omega)
              have HLP := Lib.hid (show 0 < ((upO (j + 1) (bP (chunkPts cs) j)).map robC).length by
                have h2 := lenAt_pos hpos (j + 1)
                rw [List.length_map, hup]
                omega)
              have HOE := Lib.hid (show (chunkObs cs ++ bO (chunkPts cs) (j + 1)).map robC = (chunkObs cs ++ bO (chunkPts cs) j).map robC ++ (upO (j + 1) (bP (chunkPts cs) j)).map robC by rw [bO, ← List.append_assoc, List.map_append])
              have HONES := Lib.hid (show ∀ y ∈ (upO (j + 1) (bP (chunkPts cs) j)).map robC, ∀ u ∈ y, u.oneCell' = true from fun y hy => by
                obtain ⟨o, _, rfl⟩ := List.mem_map.1 hy
                simp [robC, Value.oneCell'])
              obtain ⟨ys, hys⟩ : ∃ y, y = (upO (j + 1) (bP (chunkPts cs) j)).map robC := ⟨_, rfl⟩
              rw [← hys] at HUP HLO HLP HOE HONES
              clear hys hup hlj HNW
              rcases hcase with hq | ⟨hq, hq2⟩
              all_goals
                go_wp2_with fail
                refine HUP.out.mono ?_
                rintro e w5 ⟨va, vo, rfl, hra, hro, hb5⟩
                obtain ⟨go, capo, hvo, hcapo, hnews⟩ := hro.front HLP.out
                subst hvo
                obtain ⟨pa2, pm2, pp2, rfl⟩ := hra.shape
                have HQ5 := Lib.hid (show RBW w (bP (chunkPts cs) (j + 1)) (chunkObs cs ++ bO (chunkPts cs) j) (.slice pa2 pm2 pp2) (.slice oa2 om2 op2) w5 from ⟨hra.mono (by omega), HR.out.2.1.below hb5, HR.out.2.2.1.below hb5 HR.out.2.2.1.lt, belowThen HR.out.2.2.2 hb5⟩)
                have HNW := Lib.hid hnews
                have HRO1 := Lib.hid hro.1
                have hs5 : w.heap.size + 1 ≤ w5.heap.size := by have := hb5.size; omega
                clear hra hro hb5 hnews HUP
                go_wp2_with (first
                  | (at_builtin
                     refine wp_append_rows (w0 := w) HQ5.out.2.1 w.heap.size HQ5.out.2.2.2 (by omega) ys (by decide) HRO1.out HONES.out (.tmp 78) (.tmp 79) Trso io _ 40 rfl rfl Tryd.underlying49 HIO.out HOZ.out HOSZ.out HOBY.out rfl (by decide) rfl (ad := ⟨go, 0, none⟩) (c := capo) rfl (fun q u hu => by rw [add_plain]; exact HNW.out q u hu) HLO.out hs5 ?_
                     intro vA wA hrA hbA hsA hgA hatA
                     rw [← HOE.out] at hrA
                     obtain ⟨oa', om', op', rfl⟩ := hrA.shape
                     have HQA := Lib.hid (show RBW w (bP (chunkPts cs) (j + 1)) (chunkObs cs ++ bO (chunkPts cs) (j + 1)) (.slice pa2 pm2 pp2) (.slice oa' om' op') wA from ⟨HQ5.out.1.grow_tag HQ5.out.2.1 (by decide) hgA, hrA, HQ5.out.2.2.1.grown hgA (fun e => by have := (HQ5.out.2.1.lt _ e.symm).2; omega), hbA⟩)
                     have hsA' : w.heap.size + 1 ≤ wA.heap.size := by omega
                     clear hrA hbA hsA hgA hatA)
                  | fail)
                go_roundw
                case rel => exact ⟨j + 1, by omega, by go_num, hsA', HQA⟩
                case measure => simp [intOf]; omega
            · have ej : j = d := by omega
              subst ej
              have hl1 : lenAt cs.length j = 1 := by rw [HDE.out]; exact lenAt_depth _ _ (Nat.le_refl _) hpos
              have hq : (((j : Int) + 1) == 1) = false := by rw [beq_eq_false_iff_ne]; omega
              have hq2 : decide ((1 : Int) < (lenAt cs.length j : Int)) = false := by rw [hl1]; rfl
              have HROOT := Lib.hid (show bP (chunkPts cs) j = [rootPt cs] by
                have h1 : (bP (chunkPts cs) j).length = 1 := hlj.trans hl1
                have e : rootPt cs = (bP (chunkPts cs) j).getD 0 ([], 0) := by rw [HDE.out]; rfl
                obtain ⟨p, hp⟩ := List.length_eq_one_iff.1 h1
                rw [e, hp]
                rfl)
              have HALLO := Lib.hid (show allObs cs = chunkObs cs ++ bO (chunkPts cs) j by rw [HDE.out]; rfl)
              rw [HROOT.out] at HNW
              have k0 : wr.cell? ⟨gp, 0, none⟩ = some (.string (str (rootPt cs).1)) := HNW 0 _ rfl
              have k1 : wr.cell? ⟨gp, 1, none⟩ = some (.int .i64 (rootPt cs).2) := HNW 1 _ rfl
              obtain ⟨c0, c1, f0, f1⟩ := memTwo HR.out.2.2.1
              rw [hl1] at hcapp ⊢
              obtain ⟨x, z, hrt⟩ : ∃ x z, rootPt cs = (x, z) := ⟨_, _, rfl⟩
              rw [hrt] at k0 k1
              simp only at k0 k1
              have HRT := Lib.hid hrt
              clear HNW hrt hlj hl1 hlp hlm
              go_wp2_with fail
              have HM9 := Lib.hid ((HR.out.2.2.1.set 0 (.string (str x))).set 1 (.int .i64 z))
              have HB9 := Lib.hid ((HR.out.2.2.2.setCell (p := ⟨w.heap.size, 0, none⟩) (Nat.le_refl _) (.string (str x))).setCell (p := ⟨w.heap.size, 1, none⟩) (Nat.le_refl _) (.int .i64 z))
              refine bodyPost_ret (resultsCell3 HM9.out rfl _ _ rfl Tryd.underlying48 rfl SZ.out) rfl ⟨.slice oa2 om2 op2, ?_, ?_, HB9.out⟩
              · unfold rbP; rw [HCK.out, if_pos rfl, HRT.out]; rfl
              · unfold rbO
                rw [if_pos HCK.out, HALLO.out]
                refine (Rw.mono (base' := w.heap.size) HR.out.2.1 (Nat.le_succ _)).of_block (fun b hb => ?_)
                have hb2 := (HR.out.2.1.lt b hb).2
                rw [heap_set_ne (by simp; omega), heap_set_ne (by simp; omega)]
end Go.Proofs.YtjdhcanblpifcaaDoor
