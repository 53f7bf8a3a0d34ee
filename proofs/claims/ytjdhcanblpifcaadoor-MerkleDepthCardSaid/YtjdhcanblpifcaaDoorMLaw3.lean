/-
  MerkleDepth.
-/
import Derived.Test.YtjdhcanblpifcaaDoorMDep0
import Derived.Test.YtjdhcanblpifcaaDoorMLaw1
import Derived.Test.YtjdhcanblpifcaaDoorMLaw4
namespace Go.Proofs.YtjdhcanblpifcaaDoor
open Go.RowKit Crv

theorem two_cells (j : Nat) (h : j < 256) : (twoB j).map byteV = [.int .u8 (j : Int), .int .u8 ((j : Int) / 7)] := by
  have e1 : (UInt8.ofNat j).toNat = j := by rw [UInt8.toNat_ofNat']; omega
  have e2 : (UInt8.ofNat (j / 7)).toNat = j / 7 := by rw [UInt8.toNat_ofNat']; omega
  simp only [twoB, List.map_cons, List.map_nil, byteV, e1, e2]
  rfl
theorem two_str (j : Nat) (h : j < 256) (W : World) : (convert 59 9 (.slice (some ⟨W.heap.size, 0, none⟩) 2 2)).run Tryd.prog (W.alloc (.cells #[.int .u8 (j : Int), .int .u8 ((j : Int) / 7)] 5)) = .ok (.string (str (twoB j))) (W.alloc (.cells #[.int .u8 (j : Int), .int .u8 ((j : Int) / 7)] 5)) := by
  have hm := Mem.new W 5 ((twoB j).map byteV)
  have h0 := Owns.of_mem (cs := (twoB j).map byteV) hm (Nat.zero_le _) 2 2 (Nat.le_refl _) rfl (by simp [maxLen]) rfl
  rw [List.take_of_length_le (by simp [twoB])] at h0
  have h1 := h0.string Tryd.underlying59 Tryd.underlying5 Tryd.underlying9
  rw [two_cells j h] at h1
  exact h1
/-- What the last region of MerkleDepth reads: the node, the last object, the root's part. -/
def AW3 (w : World) (b10 b5 go L : Nat) (d : Int) (vs : Value) (R T : List UInt8) (z : Int) (W : World) : Prop := Mem W b10 Tnd [.int .i64 d, vs] ∧ W.rangeAt go (L * 34) (obC 2 R T) ∧ Mem W b5 Tpt (ptC (R, z)) ∧ Below w.heap.size w W
set_option maxRecDepth 100000 in
set_option maxHeartbeats 1000000 in
theorem merkleDepth_walk (n : Int) (w : World) (hc : Consts w) :
    Calls Tryd.prog 5 #[.int .i64 n] w fun e w' => e = .returned (.bool true) ∧ Below w.heap.size w w' := by
  have HC := Lib.hid hc
  have HAW := Lib.hid (awake9_any w hc)
  clear hc
  by_cases hlo : n < 1
  · have hd : decide (n < 1) = true := by simpa using hlo
    go_enter Tryd.func5, Tryd.ntmps5
    go_wp2_with fail
    refine HAW.out.mono ?_
    rintro e w1 ⟨rfl, hb1⟩
    have HB1 := Lib.hid hb1
    have HA2 := Lib.hid (awake9_any w1 (HC.out.below HB1.out))
    clear hb1 HAW
    go_wp2_with fail
    refine HA2.out.mono ?_
    rintro e w2 ⟨rfl, hb2⟩
    go_wp2_with fail
    go_ret
    exact ⟨rfl, belowThen HB1.out hb2⟩
  by_cases hhi : 200 < n
  · have hd : decide (n < 1) = false := by simpa using hlo
    have hd2 : decide (200 < n) = true := by simpa using hhi
    go_enter Tryd.func5, Tryd.ntmps5
    go_wp2_with fail
    refine HAW.out.mono ?_
    rintro e w1 ⟨rfl, hb1⟩
    have HB1 := Lib.hid hb1
    have HA2 := Lib.hid (awake9_any w1 (HC.out.below HB1.out))
    clear hb1 HAW
    go_wp2_with fail
    refine HA2.out.mono ?_
    rintro e w2 ⟨rfl, hb2⟩
    go_wp2_with fail
    go_ret
    exact ⟨rfl, belowThen HB1.out hb2⟩
  obtain ⟨m, rfl⟩ := Int.eq_ofNat_of_zero_le (show 0 ≤ n by omega)
  have hm1 : 1 ≤ m := by omega
  have hm2 : m ≤ 200 := by omega
  have hd : decide ((m : Int) < 1) = false := by simpa using hlo
  have hd2 : decide (200 < (m : Int)) = false := by simpa using hhi
  obtain ⟨tt, htt, htz, hts, htb⟩ := txt_info
  have HTT := Lib.hid htt
  have HTZ := Lib.hid htz
  have HTS := Lib.hid hts
  have HTB := Lib.hid (show tt.bytes ≤ 64 by omega)
  clear htt htz hts htb hlo hhi
  go_enter Tryd.func5, Tryd.ntmps5
  go_wp2_with fail
  refine HAW.out.mono ?_
  rintro e w1 ⟨rfl, hb1⟩
  have HB1 := Lib.hid hb1
  have HW0 := Lib.hid (show CkW w1 (twos 0) (.slice (some ⟨w1.heap.size, 0, none⟩) 0 0) (w1.alloc (.cells #[] 9)) from ⟨own_none w1 9, belowSelf w1 _⟩)
  clear hb1 HAW
  go_wp2_with fail
  go_loopw [3, 25] (fun v i wr => ∃ j : Nat, j ≤ m ∧ i = .int .i64 j ∧ w1.heap.size ≤ wr.heap.size ∧ Hid (CkW w1 (twos j) v wr)) (fun _ i _ => m - (intOf i).toNat)
  case atStart => exact ⟨0, by omega, rfl, by simp, HW0⟩
  case round =>
    clear HW0
    obtain ⟨j, hj, rfl, hszr, HW⟩ := hrel
    by_cases hlt : j < m
    · have hdj : decide (j < m) = true := by simpa using hlt
      obtain ⟨av, cv, hvv, -, -, -⟩ := HW.out.1.form
      rw [List.length_map, length_twos] at hvv
      subst hvv
      have hcv2 := fun W => two_str j (by omega) W
      have HST := Lib.hid (show (twos (j + 1)).map tx = (twos j).map tx ++ [tx (twoB j)] by rw [twos_succ, List.map_append]; rfl)
      have HLE := Lib.hid (show ((twos j).map tx).length + [tx (twoB j)].length ≤ 1099511627776 by rw [List.length_map, length_twos]; simp; omega)
      obtain ⟨x, hx⟩ : ∃ x, x = twoB j := ⟨_, rfl⟩
      rw [← hx] at HST HLE
      simp only [← hx] at hcv2
      have HONE := Lib.hid (show ∀ u ∈ [tx x], u.oneCell' = true by intro u hu; simp at hu; subst hu; rfl)
      have HXA := Lib.hid (show CkW w1 (twos j) (.slice av j cv) ((wr.alloc (.cells #[.int .u8 (j : Int), .int .u8 ((j : Int) / 7)] 5)).alloc (.cells #[tx x] 9)) from ⟨(HW.out.1.alloc _).alloc _, belowThen (belowThen HW.out.2 (belowSelf _ _)) (belowSelf _ _)⟩)
      clear hx
      go_wp2_with (first
        | (at_builtin; refine wp_append_news (w0 := w1) HXA.out.1 w1.heap.size HXA.out.2 (Nat.le_refl _) [tx x] (.tmp 28) (.tmp 36) 38 tt (.string ⟨#[]⟩) rfl rfl Tryd.underlying38 HTT.out HTZ.out HTS.out HTB.out rfl rfl rfl (fun q u hu => ((Mem.newAt (wr.alloc (.cells #[.int .u8 (j : Int), .int .u8 ((j : Int) / 7)] 5)) 9 [tx x] (g := wr.heap.size + 1) (by simp)).cell q).trans hu) HONE.out HLE.out (by simp; omega) ?_
           intro v8 w8 hown8 hb8 hs8 hg8 hat8
           rw [← HST.out] at hown8
           have HX8 := Lib.hid (show CkW w1 (twos (j + 1)) v8 w8 from ⟨hown8, hb8⟩)
           have hsz8 : w1.heap.size ≤ w8.heap.size := by simp at hs8; omega
           clear hown8 hb8 hs8 hg8 hat8)
        | fail)
      go_roundw
      case rel => exact ⟨j + 1, by omega, by go_num, hsz8, HX8⟩
      case measure => simp [intOf]; omega
    · have ej : j = m := by omega
      subst ej
      have hdj : decide (j < j) = false := by simp
      obtain ⟨av, cv, hvv, -, -, -⟩ := HW.out.1.form
      rw [List.length_map, length_twos] at hvv
      subst hvv
      have HBD := Lib.hid (build_any (.slice av j cv) (twos j) wr (HC.out.below (belowThen HB1.out HW.out.2)) (Txs.of_owns HW.out.1) (by rw [length_twos]; omega) (chk_twos hm1 hm2))
      obtain ⟨r1, r2, r3⟩ := root_is (chk_twos hm1 hm2) (by rw [length_twos]; omega)
      have hal := length_allObs (twos j)
      rw [length_twos] at r2 r3 hal
      rw [sumC_twos] at r1
      obtain ⟨pre, hpre⟩ : ∃ l, l = chunkObs (twos j) ++ bO (chunkPts (twos j)) (depthOf j - 1) := ⟨_, rfl⟩
      rw [← hpre] at r2
      rw [r2, List.length_append, List.length_singleton] at hal
      have HPA := Lib.hid (fun W => parse_any (topTxt (twos j)) W)
      rw [r3] at HPA
      simp only at HPA
      rw [r1, r2] at HBD
      have HDP := Lib.hid (fun W => depth_any j (by omega) W)
      have hd1 := depthOf_pos j
      have hd3 : depthOf j ≤ 3 := depthOf_le 2 j (by omega)
      obtain ⟨d, hde⟩ : ∃ d, d = depthOf j := ⟨_, rfl⟩
      rw [← hde] at HPA HDP hd1 hd3 hal
      have HDE := Lib.hid hde
      obtain ⟨T, hT⟩ : ∃ t, t = topTxt (twos j) := ⟨_, rfl⟩
      rw [← hT] at HBD HPA
      obtain ⟨tp, htp⟩ : ∃ t, t = topPts (twos j) := ⟨_, rfl⟩
      rw [← htp] at HPA
      have hR := length_oidOf 2 T
      rw [show mkOb 2 T = (2, oidOf 2 T, T) from rfl] at HBD
      obtain ⟨R, hRe⟩ : ∃ t, t = oidOf 2 T := ⟨_, rfl⟩
      rw [← hRe] at HBD hR
      have HRE := Lib.hid hR
      obtain ⟨L, hL⟩ : ∃ l, l = pre.length := ⟨_, rfl⟩
      rw [← hL] at hal
      have HAL := Lib.hid hal
      clear hal
      have HNL := Lib.hid (nodesTo_le j (by omega) d)
      have SZP := Lib.hid (sz_pt (R, ((2 * j : Nat) : Int)) hR)
      have HZ := Lib.hid (show (List.replicate 32 (byteV 0) ++ [Value.int .i64 0]).length = (ptC (R, ((2 * j : Nat) : Int))).length by rw [length_ptC (R, ((2 * j : Nat) : Int)) hR]; rfl)
      have ONE := Lib.hid (one_ptC (R, ((2 * j : Nat) : Int)))
      have HLL := Lib.hid hL
      clear hT hRe htp hde r1 r2 r3 hpre hR hL
      go_wp2_with fail
      refine HBD.out.mono ?_
      rintro e w2 ⟨vo, rfl, hro, hb2⟩
      obtain ⟨go, capo, hvo, hcapo, -⟩ := hro.front (by simp)
      obtain ⟨ao, co, hvo2, -, hrd⟩ := hro.rd
      have hrng := hrd L (by simp; have := HLL.out; omega)
      subst hvo
      injection hvo2 with q1 q2 q3
      obtain ⟨g', off', hga, hglt, hrn⟩ := hrng
      rw [← q1] at hga
      injection hga with hga
      injection hga with hg1 hg2
      subst hg1 hg2
      clear q1 q2 q3 hrd
      rw [List.getElem_map, List.getElem_append_right (by have := HLL.out; omega)] at hrn
      simp only [HLL.out, Nat.sub_self, List.getElem_singleton, Nat.zero_add] at hrn
      rw [← HLL.out] at hrn
      rw [List.length_map, List.length_append, List.length_singleton, ← HLL.out] at hcapo ⊢
      have HRN := Lib.hid (show w2.rangeAt go (L * 34) (obC 2 R T) from hrn)
      have HB2 := Lib.hid (belowThen (belowThen HB1.out HW.out.2) hb2)
      clear hrn HBD hro hb2 HW hszr
      go_wp2_with (first
        | (refine wp_store_gen (B := w2.heap.size) (w0 := w2) (belowSelf w2 _) (Nat.le_refl _) (Mem.newAt w2 Tpt (List.replicate 32 (byteV 0) ++ [.int .i64 0]) rfl) (ptC (R, ((2 * j : Nat) : Int))) Tpt (.tmp 5) (.tmp 42) rfl rfl rfl rfl SZP.out HZ.out ONE.out ?_
           intro W3 hm3 hb3 hz3 hk3
           have HM3 := Lib.hid hm3
           have HB3 := Lib.hid hb3
           clear hm3 hb3 hz3 hk3)
        | fail)
-- BEGIN
      have HT3 := Lib.hid (show W3.cell? ⟨go, L * 34 + 33, none⟩ = some (.string (str T)) from (HB3.out.cell (p := ⟨go, L * 34 + 33, none⟩) hglt).trans (HRN.out 33 _ (by simp [obC, HRE.out])))
      have H32 := Lib.hid (show (ptC (R, ((2 * j : Nat) : Int)))[32]? = some (.int .i64 ((2 * j : Nat) : Int)) by simp [ptC, HRE.out])
      have hL9 : L ≤ 100000 := by have := HNL.out.1; have := HAL.out; omega
      by_cases hj1 : j = 1
      · have hde1 : d = 1 := by rw [HDE.out, hj1]; exact depthOf_small (by omega)
        have hal1 : L + 1 ≤ j + 1 ∧ j + 1 ≤ L + 1 := by have : L + 1 = j + 1 := by rw [HAL.out, hde1, hj1]; rfl
                                                        omega
        have hk1 : ((j : Int) == 1) = true := by rw [hj1]; rfl
        clear hde1 hj1
        go_loopw [8, 9] (fun nd k wx => nd = .int .i64 0 ∧ k = .int .i64 (j : Int) ∧ W3 = wx) (fun _ _ _ => 0)
        case atStart => exact ⟨rfl, rfl, rfl⟩
        case round =>
          obtain ⟨rfl, rfl, rfl⟩ := hrel
          have hT33 : W3.cell? ⟨go, L * 34 + 33, none⟩ = some (.string (str T)) := HT3.out
          go_wp2_with fail
          refine (HPA.out _).mono ?_
          rintro e w4 ⟨v4, rfl, hp4, hb4⟩
          obtain ⟨a4, cap4, hv4, -, -⟩ := hp4.form
          subst hv4
          have HB4 := Lib.hid hb4
          clear hT33 HPA hb4 hp4
          go_wp2_with fail
          obtain ⟨W5, hW5⟩ : ∃ W, W = w4.alloc (.cells #[.int .i64 (d : Int), .slice a4 tp.length cap4] Tnd) := ⟨_, rfl⟩
          have HB5 := Lib.hid (show Below w4.heap.size w4 W5 by rw [hW5]; exact belowSelf w4 _)
          have HS5 := Lib.hid (show AW3 w w4.heap.size w2.heap.size go L (d : Int) (.slice a4 tp.length cap4) R T ((2 * j : Nat) : Int) W5.drew from ⟨by rw [hW5]; exact (Mem.new w4 Tnd [.int .i64 (d : Int), .slice a4 tp.length cap4]).drew, fun q u hu => ((below_drewN (belowThen (belowThen HB3.out HB4.out) HB5.out) 1).cell (p := ⟨go, L * 34 + q, none⟩) hglt).trans (HRN.out q u hu), HM3.out.below (below_drewN (belowThen HB4.out HB5.out) 1) HM3.out.lt, below_drewN (belowThen HB2.out (belowThen (belowThen HB3.out HB4.out) HB5.out)) 1⟩)
          rw [← hW5]
          clear hW5
          have SZR := Lib.hid (sz_id R HRE.out)
          have hwA : IntKind.i64.wrap ((j : Int) + 1) = (j : Int) + 1 := IntWalk.i64_in _ (by omega)
          have hwB : IntKind.i64.wrap (2 * (j : Int)) = 2 * (j : Int) := IntWalk.i64_in _ (by omega)
          have hwC : IntKind.i64.wrap (L : Int) = (L : Int) := IntWalk.i64_in _ (by omega)
          have heR : ∀ W, (binOp .eql TI (.agg (R.map byteV).toArray) (.agg (R.map byteV).toArray)).run Tryd.prog W = .ok (.bool true) W := fun W => by
            rw [run_eql_bytes (P := Tryd.prog) TI 5 32 Tryd.underlying41 Tryd.underlying5 (by kernel_rfl) R R HRE.out HRE.out W]; simp
          refine wp_region_held_drew (S := AW3 w w4.heap.size w2.heap.size go L (d : Int) (.slice a4 tp.length cap4) R T ((2 * j : Nat) : Int)) (by kernel_rfl) HS5.out (fun hHeld => ?_)
          refine wpAnyH_take (i := 0) (oi := { dst := some 82, op := Op.move (Operand.tmp 11), type := 26, pos := "outright.go:35", after := #[], guard := none }) (v := .int .i64 0) rfl (by kernel_rfl) (by kernel_rfl) (by kernel_rfl) (fun _ _ _ h => h) (Or.inl ⟨by rfl, ?_⟩) hHeld ?_
          · intro w' hSw
            obtain ⟨z1, -, z3, -⟩ := hSw
            have y0 : w'.cell? ⟨w4.heap.size, 0, none⟩ = some (.int .i64 (d : Int)) := z1.cell 0
            have y1 : w'.cell? ⟨w2.heap.size, 32, none⟩ = some (.int .i64 ((2 * j : Nat) : Int)) := (z3.cell 32).trans H32.out
            clear z1 z3
            go_simp
          simp only [Act.put, List.setIfInBounds_toArray, List.set_cons_zero, List.set_cons_succ]
          refine wpAnyH_take (i := 1) (oi := { dst := some 83, op := Op.binOp BinOp.eql 26 (Operand.tmp 82) (Operand.const (Value.int IntKind.i64 0)) 26, type := 4, pos := "outright.go:35", after := #[{ on := 0, ground := Ground.data }], guard := none }) (v := .bool true) rfl (by kernel_rfl) (by kernel_rfl) (by kernel_rfl) (fun _ _ _ h => h) (Or.inl ⟨by rfl, ?_⟩) hHeld ?_
          · intro w' hSw
            obtain ⟨z1, -, z3, -⟩ := hSw
            have y0 : w'.cell? ⟨w4.heap.size, 0, none⟩ = some (.int .i64 (d : Int)) := z1.cell 0
            have y1 : w'.cell? ⟨w2.heap.size, 32, none⟩ = some (.int .i64 ((2 * j : Nat) : Int)) := (z3.cell 32).trans H32.out
            clear z1 z3
            go_simp
          simp only [Act.put, List.setIfInBounds_toArray, List.set_cons_zero, List.set_cons_succ]
          refine wpAnyH_take (i := 2) (oi := { dst := some 84, op := Op.move (Operand.tmp 83), type := 4, pos := "outright.go:35", after := #[{ on := 1, ground := Ground.data }], guard := none }) (v := .bool true) rfl (by kernel_rfl) (by kernel_rfl) (by kernel_rfl) (fun _ _ _ h => h) (Or.inl ⟨by rfl, ?_⟩) hHeld ?_
          · intro w' hSw
            obtain ⟨z1, -, z3, -⟩ := hSw
            have y0 : w'.cell? ⟨w4.heap.size, 0, none⟩ = some (.int .i64 (d : Int)) := z1.cell 0
            have y1 : w'.cell? ⟨w2.heap.size, 32, none⟩ = some (.int .i64 ((2 * j : Nat) : Int)) := (z3.cell 32).trans H32.out
            clear z1 z3
            go_simp
          simp only [Act.put, List.setIfInBounds_toArray, List.set_cons_zero, List.set_cons_succ]
          refine wpAnyH_take (i := 3) (oi := { dst := some 85, op := Op.fieldAddr 25 (Operand.tmp 10) 0, type := 0, pos := "outright.go:35", after := #[{ on := 2, ground := Ground.guard }], guard := some (2, true) }) (v := .pointer (some ⟨w4.heap.size, 0, none⟩)) rfl (by kernel_rfl) (by kernel_rfl) (by kernel_rfl) (fun _ _ _ h => h) (Or.inl ⟨by rfl, ?_⟩) hHeld ?_
          · intro w' hSw
            obtain ⟨z1, -, z3, -⟩ := hSw
            have y0 : w'.cell? ⟨w4.heap.size, 0, none⟩ = some (.int .i64 (d : Int)) := z1.cell 0
            have y1 : w'.cell? ⟨w2.heap.size, 32, none⟩ = some (.int .i64 ((2 * j : Nat) : Int)) := (z3.cell 32).trans H32.out
            clear z1 z3
            go_simp
          simp only [Act.put, List.setIfInBounds_toArray, List.set_cons_zero, List.set_cons_succ]
          refine wpAnyH_take (i := 4) (oi := { dst := some 86, op := Op.load 3 (Operand.tmp 85), type := 3, pos := "outright.go:35", after := #[{ on := 3, ground := Ground.data }, { on := 2, ground := Ground.guard }], guard := some (2, true) }) (v := .int .i64 (d : Int)) rfl (by kernel_rfl) (by kernel_rfl) (by kernel_rfl) (fun _ _ _ h => h) (Or.inl ⟨by rfl, ?_⟩) hHeld ?_
          · intro w' hSw
            obtain ⟨z1, -, z3, -⟩ := hSw
            have y0 : w'.cell? ⟨w4.heap.size, 0, none⟩ = some (.int .i64 (d : Int)) := z1.cell 0
            have y1 : w'.cell? ⟨w2.heap.size, 32, none⟩ = some (.int .i64 ((2 * j : Nat) : Int)) := (z3.cell 32).trans H32.out
            clear z1 z3
            go_simp
          simp only [Act.put, List.setIfInBounds_toArray, List.set_cons_zero, List.set_cons_succ]
          refine wpAnyH_take (i := 5) (oi := { dst := some 87, op := Op.move (Operand.tmp 0), type := 3, pos := "outright.go:35", after := #[{ on := 2, ground := Ground.guard }], guard := some (2, true) }) (v := .int .i64 (j : Int)) rfl (by kernel_rfl) (by kernel_rfl) (by kernel_rfl) (fun _ _ _ h => h) (Or.inl ⟨by rfl, ?_⟩) hHeld ?_
          · intro w' hSw
            obtain ⟨z1, -, z3, -⟩ := hSw
            have y0 : w'.cell? ⟨w4.heap.size, 0, none⟩ = some (.int .i64 (d : Int)) := z1.cell 0
            have y1 : w'.cell? ⟨w2.heap.size, 32, none⟩ = some (.int .i64 ((2 * j : Nat) : Int)) := (z3.cell 32).trans H32.out
            clear z1 z3
            go_simp
          simp only [Act.put, List.setIfInBounds_toArray, List.set_cons_zero, List.set_cons_succ]
          refine wpAnyH_ready (rs := [6]) (by kernel_rfl) (by simp) (AllReadyH.cons rfl (fun K hK => ?_) AllReadyH.nil)
          go_simp
          refine (HDP.out _).mono ?_
          rintro e w6 ⟨rfl, rfl⟩
          dsimp only
          refine hK.out _ _ HS5.out (fun hH1 => ?_)
          clear hK K
          refine wpAnyH_take (i := 7) (oi := { dst := some 89, op := Op.binOp BinOp.eql 3 (Operand.tmp 86) (Operand.tmp 88) 3, type := 4, pos := "outright.go:35", after := #[{ on := 4, ground := Ground.data }, { on := 6, ground := Ground.data }, { on := 2, ground := Ground.guard }], guard := some (2, true) }) (v := .bool true) rfl (by kernel_rfl) (by kernel_rfl) (by kernel_rfl) (fun _ _ _ h => h) (Or.inl ⟨by rfl, ?_⟩) hH1 ?_
          · intro w' hSw
            obtain ⟨z1, -, z3, -⟩ := hSw
            have y0 : w'.cell? ⟨w4.heap.size, 0, none⟩ = some (.int .i64 (d : Int)) := z1.cell 0
            have y1 : w'.cell? ⟨w2.heap.size, 32, none⟩ = some (.int .i64 ((2 * j : Nat) : Int)) := (z3.cell 32).trans H32.out
            clear z1 z3
            go_simp
          simp only [Act.put, List.setIfInBounds_toArray, List.set_cons_zero, List.set_cons_succ]
          refine wpAnyH_take (i := 8) (oi := { dst := some 90, op := Op.pick (Operand.tmp 84) (Operand.tmp 89) (Operand.const (Value.bool false)), type := 4, pos := "outright.go:35", after := #[{ on := 2, ground := Ground.data }, { on := 7, ground := Ground.data }], guard := none }) (v := .bool true) rfl (by kernel_rfl) (by kernel_rfl) (by kernel_rfl) (fun _ _ _ h => h) (Or.inl ⟨by rfl, ?_⟩) hH1 ?_
          · intro w' hSw
            obtain ⟨z1, -, z3, -⟩ := hSw
            have y0 : w'.cell? ⟨w4.heap.size, 0, none⟩ = some (.int .i64 (d : Int)) := z1.cell 0
            have y1 : w'.cell? ⟨w2.heap.size, 32, none⟩ = some (.int .i64 ((2 * j : Nat) : Int)) := (z3.cell 32).trans H32.out
            clear z1 z3
            go_simp
          simp only [Act.put, List.setIfInBounds_toArray, List.set_cons_zero, List.set_cons_succ]
          refine wpAnyH_take (i := 9) (oi := { dst := some 91, op := Op.move (Operand.tmp 90), type := 4, pos := "outright.go:35", after := #[{ on := 8, ground := Ground.data }, { on := 6, ground := Ground.chain }], guard := none }) (v := .bool true) rfl (by kernel_rfl) (by kernel_rfl) (by kernel_rfl) (fun _ _ _ h => h) (Or.inl ⟨by rfl, ?_⟩) hH1 ?_
          · intro w' hSw
            obtain ⟨z1, -, z3, -⟩ := hSw
            have y0 : w'.cell? ⟨w4.heap.size, 0, none⟩ = some (.int .i64 (d : Int)) := z1.cell 0
            have y1 : w'.cell? ⟨w2.heap.size, 32, none⟩ = some (.int .i64 ((2 * j : Nat) : Int)) := (z3.cell 32).trans H32.out
            clear z1 z3
            go_simp
          simp only [Act.put, List.setIfInBounds_toArray, List.set_cons_zero, List.set_cons_succ]
          refine wpAnyH_take (i := 10) (oi := { dst := some 92, op := Op.move (Operand.tmp 6), type := 44, pos := "outright.go:35", after := #[{ on := 9, ground := Ground.guard }], guard := some (9, true) }) (v := .slice (some ⟨go, 0, none⟩) (L + 1) capo) rfl (by kernel_rfl) (by kernel_rfl) (by kernel_rfl) (fun _ _ _ h => h) (Or.inl ⟨by rfl, ?_⟩) hH1 ?_
          · intro w' hSw
            obtain ⟨z1, -, z3, -⟩ := hSw
            have y0 : w'.cell? ⟨w4.heap.size, 0, none⟩ = some (.int .i64 (d : Int)) := z1.cell 0
            have y1 : w'.cell? ⟨w2.heap.size, 32, none⟩ = some (.int .i64 ((2 * j : Nat) : Int)) := (z3.cell 32).trans H32.out
            clear z1 z3
            go_simp
          simp only [Act.put, List.setIfInBounds_toArray, List.set_cons_zero, List.set_cons_succ]
          refine wpAnyH_take (i := 11) (oi := { dst := some 93, op := Op.call { callee := Callee.builtin Builtin.len, args := #[Operand.tmp 92], argTypes := #[44] }, type := 3, pos := "outright.go:35", after := #[{ on := 10, ground := Ground.data }, { on := 9, ground := Ground.guard }], guard := some (9, true) }) (v := .int .i64 ((L : Int) + 1)) rfl (by kernel_rfl) (by kernel_rfl) (by kernel_rfl) (fun _ _ _ h => h) (Or.inl ⟨by rfl, ?_⟩) hH1 ?_
          · intro w' hSw
            obtain ⟨z1, -, z3, -⟩ := hSw
            have y0 : w'.cell? ⟨w4.heap.size, 0, none⟩ = some (.int .i64 (d : Int)) := z1.cell 0
            have y1 : w'.cell? ⟨w2.heap.size, 32, none⟩ = some (.int .i64 ((2 * j : Nat) : Int)) := (z3.cell 32).trans H32.out
            clear z1 z3
            go_simp
          simp only [Act.put, List.setIfInBounds_toArray, List.set_cons_zero, List.set_cons_succ]
          refine wpAnyH_take (i := 12) (oi := { dst := some 94, op := Op.move (Operand.tmp 0), type := 3, pos := "outright.go:35", after := #[{ on := 9, ground := Ground.guard }], guard := some (9, true) }) (v := .int .i64 (j : Int)) rfl (by kernel_rfl) (by kernel_rfl) (by kernel_rfl) (fun _ _ _ h => h) (Or.inl ⟨by rfl, ?_⟩) hH1 ?_
          · intro w' hSw
            obtain ⟨z1, -, z3, -⟩ := hSw
            have y0 : w'.cell? ⟨w4.heap.size, 0, none⟩ = some (.int .i64 (d : Int)) := z1.cell 0
            have y1 : w'.cell? ⟨w2.heap.size, 32, none⟩ = some (.int .i64 ((2 * j : Nat) : Int)) := (z3.cell 32).trans H32.out
            clear z1 z3
            go_simp
          simp only [Act.put, List.setIfInBounds_toArray, List.set_cons_zero, List.set_cons_succ]
          refine wpAnyH_take (i := 13) (oi := { dst := some 95, op := Op.move (Operand.tmp 8), type := 3, pos := "outright.go:35", after := #[{ on := 9, ground := Ground.guard }], guard := some (9, true) }) (v := .int .i64 1) rfl (by kernel_rfl) (by kernel_rfl) (by kernel_rfl) (fun _ _ _ h => h) (Or.inl ⟨by rfl, ?_⟩) hH1 ?_
          · intro w' hSw
            obtain ⟨z1, -, z3, -⟩ := hSw
            have y0 : w'.cell? ⟨w4.heap.size, 0, none⟩ = some (.int .i64 (d : Int)) := z1.cell 0
            have y1 : w'.cell? ⟨w2.heap.size, 32, none⟩ = some (.int .i64 ((2 * j : Nat) : Int)) := (z3.cell 32).trans H32.out
            clear z1 z3
            go_simp
          simp only [Act.put, List.setIfInBounds_toArray, List.set_cons_zero, List.set_cons_succ]
          refine wpAnyH_take (i := 14) (oi := { dst := some 96, op := Op.binOp BinOp.add 3 (Operand.tmp 94) (Operand.tmp 95) 3, type := 3, pos := "outright.go:35", after := #[{ on := 12, ground := Ground.data }, { on := 13, ground := Ground.data }, { on := 9, ground := Ground.guard }], guard := some (9, true) }) (v := .int .i64 ((j : Int) + 1)) rfl (by kernel_rfl) (by kernel_rfl) (by kernel_rfl) (fun _ _ _ h => h) (Or.inl ⟨by rfl, ?_⟩) hH1 ?_
          · intro w' hSw
            obtain ⟨z1, -, z3, -⟩ := hSw
            have y0 : w'.cell? ⟨w4.heap.size, 0, none⟩ = some (.int .i64 (d : Int)) := z1.cell 0
            have y1 : w'.cell? ⟨w2.heap.size, 32, none⟩ = some (.int .i64 ((2 * j : Nat) : Int)) := (z3.cell 32).trans H32.out
            clear z1 z3
            go_simp <;> omega
          simp only [Act.put, List.setIfInBounds_toArray, List.set_cons_zero, List.set_cons_succ]
          refine wpAnyH_take (i := 15) (oi := { dst := some 97, op := Op.binOp BinOp.eql 3 (Operand.tmp 93) (Operand.tmp 96) 3, type := 4, pos := "outright.go:35", after := #[{ on := 11, ground := Ground.data }, { on := 14, ground := Ground.data }, { on := 9, ground := Ground.guard }], guard := some (9, true) }) (v := .bool true) rfl (by kernel_rfl) (by kernel_rfl) (by kernel_rfl) (fun _ _ _ h => h) (Or.inl ⟨by rfl, ?_⟩) hH1 ?_
          · intro w' hSw
            obtain ⟨z1, -, z3, -⟩ := hSw
            have y0 : w'.cell? ⟨w4.heap.size, 0, none⟩ = some (.int .i64 (d : Int)) := z1.cell 0
            have y1 : w'.cell? ⟨w2.heap.size, 32, none⟩ = some (.int .i64 ((2 * j : Nat) : Int)) := (z3.cell 32).trans H32.out
            clear z1 z3
            go_simp <;> omega
          simp only [Act.put, List.setIfInBounds_toArray, List.set_cons_zero, List.set_cons_succ]
          refine wpAnyH_take (i := 16) (oi := { dst := some 98, op := Op.pick (Operand.tmp 91) (Operand.tmp 97) (Operand.const (Value.bool false)), type := 4, pos := "outright.go:35", after := #[{ on := 9, ground := Ground.data }, { on := 15, ground := Ground.data }], guard := none }) (v := .bool true) rfl (by kernel_rfl) (by kernel_rfl) (by kernel_rfl) (fun _ _ _ h => h) (Or.inl ⟨by rfl, ?_⟩) hH1 ?_
          · intro w' hSw
            obtain ⟨z1, -, z3, -⟩ := hSw
            have y0 : w'.cell? ⟨w4.heap.size, 0, none⟩ = some (.int .i64 (d : Int)) := z1.cell 0
            have y1 : w'.cell? ⟨w2.heap.size, 32, none⟩ = some (.int .i64 ((2 * j : Nat) : Int)) := (z3.cell 32).trans H32.out
            clear z1 z3
            go_simp
          simp only [Act.put, List.setIfInBounds_toArray, List.set_cons_zero, List.set_cons_succ]
          refine wpAnyH_take (i := 17) (oi := { dst := some 99, op := Op.move (Operand.tmp 98), type := 4, pos := "outright.go:35", after := #[{ on := 16, ground := Ground.data }, { on := 9, ground := Ground.chain }], guard := none }) (v := .bool true) rfl (by kernel_rfl) (by kernel_rfl) (by kernel_rfl) (fun _ _ _ h => h) (Or.inl ⟨by rfl, ?_⟩) hH1 ?_
          · intro w' hSw
            obtain ⟨z1, -, z3, -⟩ := hSw
            have y0 : w'.cell? ⟨w4.heap.size, 0, none⟩ = some (.int .i64 (d : Int)) := z1.cell 0
            have y1 : w'.cell? ⟨w2.heap.size, 32, none⟩ = some (.int .i64 ((2 * j : Nat) : Int)) := (z3.cell 32).trans H32.out
            clear z1 z3
            go_simp
          simp only [Act.put, List.setIfInBounds_toArray, List.set_cons_zero, List.set_cons_succ]
          refine wpAnyH_take (i := 18) (oi := { dst := some 100, op := Op.fieldAddr 43 (Operand.tmp 5) 1, type := 0, pos := "outright.go:35", after := #[{ on := 17, ground := Ground.guard }], guard := some (17, true) }) (v := .pointer (some ⟨w2.heap.size, 32, none⟩)) rfl (by kernel_rfl) (by kernel_rfl) (by kernel_rfl) (fun _ _ _ h => h) (Or.inl ⟨by rfl, ?_⟩) hH1 ?_
          · intro w' hSw
            obtain ⟨z1, -, z3, -⟩ := hSw
            have y0 : w'.cell? ⟨w4.heap.size, 0, none⟩ = some (.int .i64 (d : Int)) := z1.cell 0
            have y1 : w'.cell? ⟨w2.heap.size, 32, none⟩ = some (.int .i64 ((2 * j : Nat) : Int)) := (z3.cell 32).trans H32.out
            clear z1 z3
            go_simp
          simp only [Act.put, List.setIfInBounds_toArray, List.set_cons_zero, List.set_cons_succ]
          refine wpAnyH_take (i := 19) (oi := { dst := some 101, op := Op.load 3 (Operand.tmp 100), type := 3, pos := "outright.go:35", after := #[{ on := 18, ground := Ground.data }, { on := 17, ground := Ground.guard }], guard := some (17, true) }) (v := .int .i64 ((2 * j : Nat) : Int)) rfl (by kernel_rfl) (by kernel_rfl) (by kernel_rfl) (fun _ _ _ h => h) (Or.inl ⟨by rfl, ?_⟩) hH1 ?_
          · intro w' hSw
            obtain ⟨z1, -, z3, -⟩ := hSw
            have y0 : w'.cell? ⟨w4.heap.size, 0, none⟩ = some (.int .i64 (d : Int)) := z1.cell 0
            have y1 : w'.cell? ⟨w2.heap.size, 32, none⟩ = some (.int .i64 ((2 * j : Nat) : Int)) := (z3.cell 32).trans H32.out
            clear z1 z3
            go_simp
          simp only [Act.put, List.setIfInBounds_toArray, List.set_cons_zero, List.set_cons_succ]
          refine wpAnyH_take (i := 20) (oi := { dst := some 102, op := Op.move (Operand.tmp 0), type := 3, pos := "outright.go:35", after := #[{ on := 17, ground := Ground.guard }], guard := some (17, true) }) (v := .int .i64 (j : Int)) rfl (by kernel_rfl) (by kernel_rfl) (by kernel_rfl) (fun _ _ _ h => h) (Or.inl ⟨by rfl, ?_⟩) hH1 ?_
          · intro w' hSw
            obtain ⟨z1, -, z3, -⟩ := hSw
            have y0 : w'.cell? ⟨w4.heap.size, 0, none⟩ = some (.int .i64 (d : Int)) := z1.cell 0
            have y1 : w'.cell? ⟨w2.heap.size, 32, none⟩ = some (.int .i64 ((2 * j : Nat) : Int)) := (z3.cell 32).trans H32.out
            clear z1 z3
            go_simp
          simp only [Act.put, List.setIfInBounds_toArray, List.set_cons_zero, List.set_cons_succ]
          refine wpAnyH_take (i := 21) (oi := { dst := some 103, op := Op.binOp BinOp.mul 3 (Operand.const (Value.int IntKind.i64 2)) (Operand.tmp 102) 3, type := 3, pos := "outright.go:35", after := #[{ on := 20, ground := Ground.data }, { on := 17, ground := Ground.guard }], guard := some (17, true) }) (v := .int .i64 (2 * (j : Int))) rfl (by kernel_rfl) (by kernel_rfl) (by kernel_rfl) (fun _ _ _ h => h) (Or.inl ⟨by rfl, ?_⟩) hH1 ?_
          · intro w' hSw
            obtain ⟨z1, -, z3, -⟩ := hSw
            have y0 : w'.cell? ⟨w4.heap.size, 0, none⟩ = some (.int .i64 (d : Int)) := z1.cell 0
            have y1 : w'.cell? ⟨w2.heap.size, 32, none⟩ = some (.int .i64 ((2 * j : Nat) : Int)) := (z3.cell 32).trans H32.out
            clear z1 z3
            go_simp <;> omega
          simp only [Act.put, List.setIfInBounds_toArray, List.set_cons_zero, List.set_cons_succ]
          refine wpAnyH_take (i := 22) (oi := { dst := some 104, op := Op.binOp BinOp.eql 3 (Operand.tmp 101) (Operand.tmp 103) 3, type := 4, pos := "outright.go:35", after := #[{ on := 19, ground := Ground.data }, { on := 21, ground := Ground.data }, { on := 17, ground := Ground.guard }], guard := some (17, true) }) (v := .bool true) rfl (by kernel_rfl) (by kernel_rfl) (by kernel_rfl) (fun _ _ _ h => h) (Or.inl ⟨by rfl, ?_⟩) hH1 ?_
          · intro w' hSw
            obtain ⟨z1, -, z3, -⟩ := hSw
            have y0 : w'.cell? ⟨w4.heap.size, 0, none⟩ = some (.int .i64 (d : Int)) := z1.cell 0
            have y1 : w'.cell? ⟨w2.heap.size, 32, none⟩ = some (.int .i64 ((2 * j : Nat) : Int)) := (z3.cell 32).trans H32.out
            clear z1 z3
            go_simp <;> omega
          simp only [Act.put, List.setIfInBounds_toArray, List.set_cons_zero, List.set_cons_succ]
          refine wpAnyH_take (i := 23) (oi := { dst := some 105, op := Op.pick (Operand.tmp 99) (Operand.tmp 104) (Operand.const (Value.bool false)), type := 4, pos := "outright.go:35", after := #[{ on := 17, ground := Ground.data }, { on := 22, ground := Ground.data }], guard := none }) (v := .bool true) rfl (by kernel_rfl) (by kernel_rfl) (by kernel_rfl) (fun _ _ _ h => h) (Or.inl ⟨by rfl, ?_⟩) hH1 ?_
          · intro w' hSw
            obtain ⟨z1, -, z3, -⟩ := hSw
            have y0 : w'.cell? ⟨w4.heap.size, 0, none⟩ = some (.int .i64 (d : Int)) := z1.cell 0
            have y1 : w'.cell? ⟨w2.heap.size, 32, none⟩ = some (.int .i64 ((2 * j : Nat) : Int)) := (z3.cell 32).trans H32.out
            clear z1 z3
            go_simp
          simp only [Act.put, List.setIfInBounds_toArray, List.set_cons_zero, List.set_cons_succ]
          refine wpAnyH_take (i := 24) (oi := { dst := some 106, op := Op.move (Operand.tmp 105), type := 4, pos := "outright.go:35", after := #[{ on := 23, ground := Ground.data }, { on := 17, ground := Ground.chain }], guard := none }) (v := .bool true) rfl (by kernel_rfl) (by kernel_rfl) (by kernel_rfl) (fun _ _ _ h => h) (Or.inl ⟨by rfl, ?_⟩) hH1 ?_
          · intro w' hSw
            obtain ⟨z1, -, z3, -⟩ := hSw
            have y0 : w'.cell? ⟨w4.heap.size, 0, none⟩ = some (.int .i64 (d : Int)) := z1.cell 0
            have y1 : w'.cell? ⟨w2.heap.size, 32, none⟩ = some (.int .i64 ((2 * j : Nat) : Int)) := (z3.cell 32).trans H32.out
            clear z1 z3
            go_simp
          simp only [Act.put, List.setIfInBounds_toArray, List.set_cons_zero, List.set_cons_succ]
          refine wpAnyH_take (i := 25) (oi := { dst := some 107, op := Op.move (Operand.tmp 6), type := 44, pos := "outright.go:35", after := #[{ on := 24, ground := Ground.guard }], guard := some (24, true) }) (v := .slice (some ⟨go, 0, none⟩) (L + 1) capo) rfl (by kernel_rfl) (by kernel_rfl) (by kernel_rfl) (fun _ _ _ h => h) (Or.inl ⟨by rfl, ?_⟩) hH1 ?_
          · intro w' hSw
            obtain ⟨z1, -, z3, -⟩ := hSw
            have y0 : w'.cell? ⟨w4.heap.size, 0, none⟩ = some (.int .i64 (d : Int)) := z1.cell 0
            have y1 : w'.cell? ⟨w2.heap.size, 32, none⟩ = some (.int .i64 ((2 * j : Nat) : Int)) := (z3.cell 32).trans H32.out
            clear z1 z3
            go_simp
          simp only [Act.put, List.setIfInBounds_toArray, List.set_cons_zero, List.set_cons_succ]
          refine wpAnyH_take (i := 26) (oi := { dst := some 108, op := Op.move (Operand.tmp 6), type := 44, pos := "outright.go:35", after := #[{ on := 24, ground := Ground.guard }], guard := some (24, true) }) (v := .slice (some ⟨go, 0, none⟩) (L + 1) capo) rfl (by kernel_rfl) (by kernel_rfl) (by kernel_rfl) (fun _ _ _ h => h) (Or.inl ⟨by rfl, ?_⟩) hH1 ?_
          · intro w' hSw
            obtain ⟨z1, -, z3, -⟩ := hSw
            have y0 : w'.cell? ⟨w4.heap.size, 0, none⟩ = some (.int .i64 (d : Int)) := z1.cell 0
            have y1 : w'.cell? ⟨w2.heap.size, 32, none⟩ = some (.int .i64 ((2 * j : Nat) : Int)) := (z3.cell 32).trans H32.out
            clear z1 z3
            go_simp
          simp only [Act.put, List.setIfInBounds_toArray, List.set_cons_zero, List.set_cons_succ]
          refine wpAnyH_take (i := 27) (oi := { dst := some 109, op := Op.call { callee := Callee.builtin Builtin.len, args := #[Operand.tmp 108], argTypes := #[44] }, type := 3, pos := "outright.go:35", after := #[{ on := 26, ground := Ground.data }, { on := 24, ground := Ground.guard }], guard := some (24, true) }) (v := .int .i64 ((L : Int) + 1)) rfl (by kernel_rfl) (by kernel_rfl) (by kernel_rfl) (fun _ _ _ h => h) (Or.inl ⟨by rfl, ?_⟩) hH1 ?_
          · intro w' hSw
            obtain ⟨z1, -, z3, -⟩ := hSw
            have y0 : w'.cell? ⟨w4.heap.size, 0, none⟩ = some (.int .i64 (d : Int)) := z1.cell 0
            have y1 : w'.cell? ⟨w2.heap.size, 32, none⟩ = some (.int .i64 ((2 * j : Nat) : Int)) := (z3.cell 32).trans H32.out
            clear z1 z3
            go_simp
          simp only [Act.put, List.setIfInBounds_toArray, List.set_cons_zero, List.set_cons_succ]
          refine wpAnyH_take (i := 28) (oi := { dst := some 110, op := Op.binOp BinOp.sub 3 (Operand.tmp 109) (Operand.const (Value.int IntKind.i64 1)) 3, type := 3, pos := "outright.go:35", after := #[{ on := 27, ground := Ground.data }, { on := 24, ground := Ground.guard }], guard := some (24, true) }) (v := .int .i64 (L : Int)) rfl (by kernel_rfl) (by kernel_rfl) (by kernel_rfl) (fun _ _ _ h => h) (Or.inl ⟨by rfl, ?_⟩) hH1 ?_
          · intro w' hSw
            obtain ⟨z1, -, z3, -⟩ := hSw
            have y0 : w'.cell? ⟨w4.heap.size, 0, none⟩ = some (.int .i64 (d : Int)) := z1.cell 0
            have y1 : w'.cell? ⟨w2.heap.size, 32, none⟩ = some (.int .i64 ((2 * j : Nat) : Int)) := (z3.cell 32).trans H32.out
            clear z1 z3
            go_simp <;> omega
          simp only [Act.put, List.setIfInBounds_toArray, List.set_cons_zero, List.set_cons_succ]
          refine wpAnyH_take (i := 29) (oi := { dst := some 111, op := Op.indexAddr 44 (Operand.tmp 107) (Operand.tmp 110), type := 0, pos := "outright.go:35", after := #[{ on := 25, ground := Ground.data }, { on := 28, ground := Ground.data }, { on := 24, ground := Ground.guard }], guard := some (24, true) }) (v := .pointer (some ⟨go, L * 34, none⟩)) rfl (by kernel_rfl) (by kernel_rfl) (by kernel_rfl) (fun _ _ _ h => h) (Or.inl ⟨by rfl, ?_⟩) hH1 ?_
          · intro w' hSw
            obtain ⟨z1, -, z3, -⟩ := hSw
            have y0 : w'.cell? ⟨w4.heap.size, 0, none⟩ = some (.int .i64 (d : Int)) := z1.cell 0
            have y1 : w'.cell? ⟨w2.heap.size, 32, none⟩ = some (.int .i64 ((2 * j : Nat) : Int)) := (z3.cell 32).trans H32.out
            clear z1 z3
            go_simp <;> omega
          simp only [Act.put, List.setIfInBounds_toArray, List.set_cons_zero, List.set_cons_succ]
          refine wpAnyH_take (i := 30) (oi := { dst := some 112, op := Op.fieldAddr 55 (Operand.tmp 111) 1, type := 0, pos := "outright.go:35", after := #[{ on := 29, ground := Ground.data }, { on := 24, ground := Ground.guard }], guard := some (24, true) }) (v := .pointer (some ⟨go, L * 34 + 1, none⟩)) rfl (by kernel_rfl) (by kernel_rfl) (by kernel_rfl) (fun _ _ _ h => h) (Or.inl ⟨by rfl, ?_⟩) hH1 ?_
          · intro w' hSw
            obtain ⟨z1, -, z3, -⟩ := hSw
            have y0 : w'.cell? ⟨w4.heap.size, 0, none⟩ = some (.int .i64 (d : Int)) := z1.cell 0
            have y1 : w'.cell? ⟨w2.heap.size, 32, none⟩ = some (.int .i64 ((2 * j : Nat) : Int)) := (z3.cell 32).trans H32.out
            clear z1 z3
            go_simp
          simp only [Act.put, List.setIfInBounds_toArray, List.set_cons_zero, List.set_cons_succ]
          refine wpAnyH_take (i := 31) (oi := { dst := some 113, op := Op.load 41 (Operand.tmp 112), type := 41, pos := "outright.go:35", after := #[{ on := 30, ground := Ground.data }, { on := 24, ground := Ground.guard }], guard := some (24, true) }) (v := _) rfl (by kernel_rfl) (by kernel_rfl) (by kernel_rfl) (fun _ _ _ h => h) (yieldsIf_load_mid (by rfl) TI (.tmp 112) rfl go (L * 34 + 1) rfl (R.map byteV) (.array 32 5) (fun w hS => fun q u hu => by have := hS.2.1 (1 + q) u (by unfold obC; rw [Nat.add_comm 1 q, List.getElem?_cons_succ, List.getElem?_append_left (List.getElem?_eq_some_iff.1 hu).1]; exact hu); rw [← Nat.add_assoc] at this; exact this) Tryd.underlying41 rfl SZR.out) hH1 ?_
          simp only [Act.put, List.setIfInBounds_toArray, List.set_cons_zero, List.set_cons_succ]
          refine wpAnyH_take (i := 32) (oi := { dst := some 114, op := Op.fieldAddr 43 (Operand.tmp 5) 0, type := 0, pos := "outright.go:35", after := #[{ on := 24, ground := Ground.guard }], guard := some (24, true) }) (v := .pointer (some ⟨w2.heap.size, 0, none⟩)) rfl (by kernel_rfl) (by kernel_rfl) (by kernel_rfl) (fun _ _ _ h => h) (Or.inl ⟨by rfl, ?_⟩) hH1 ?_
          · intro w' hSw
            obtain ⟨z1, -, z3, -⟩ := hSw
            have y0 : w'.cell? ⟨w4.heap.size, 0, none⟩ = some (.int .i64 (d : Int)) := z1.cell 0
            have y1 : w'.cell? ⟨w2.heap.size, 32, none⟩ = some (.int .i64 ((2 * j : Nat) : Int)) := (z3.cell 32).trans H32.out
            clear z1 z3
            go_simp
          simp only [Act.put, List.setIfInBounds_toArray, List.set_cons_zero, List.set_cons_succ]
          refine wpAnyH_take (i := 33) (oi := { dst := some 115, op := Op.load 41 (Operand.tmp 114), type := 41, pos := "outright.go:35", after := #[{ on := 32, ground := Ground.data }, { on := 24, ground := Ground.guard }], guard := some (24, true) }) (v := _) rfl (by kernel_rfl) (by kernel_rfl) (by kernel_rfl) (fun _ _ _ h => h) (yieldsIf_load_mid (by rfl) TI (.tmp 114) rfl w2.heap.size (0) rfl (R.map byteV) (.array 32 5) (fun w hS => mem_rng hS.2.2.1) Tryd.underlying41 rfl SZR.out) hH1 ?_
          simp only [Act.put, List.setIfInBounds_toArray, List.set_cons_zero, List.set_cons_succ]
          refine wpAnyH_take (i := 34) (oi := { dst := some 116, op := Op.binOp BinOp.eql 41 (Operand.tmp 113) (Operand.tmp 115) 41, type := 4, pos := "outright.go:35", after := #[{ on := 31, ground := Ground.data }, { on := 33, ground := Ground.data }, { on := 24, ground := Ground.guard }], guard := some (24, true) }) (v := .bool true) rfl (by kernel_rfl) (by kernel_rfl) (by kernel_rfl) (fun _ _ _ h => h) (Or.inl ⟨by rfl, ?_⟩) hH1 ?_
          · intro w' hSw
            obtain ⟨z1, -, z3, -⟩ := hSw
            have y0 : w'.cell? ⟨w4.heap.size, 0, none⟩ = some (.int .i64 (d : Int)) := z1.cell 0
            have y1 : w'.cell? ⟨w2.heap.size, 32, none⟩ = some (.int .i64 ((2 * j : Nat) : Int)) := (z3.cell 32).trans H32.out
            clear z1 z3
            go_simp
          simp only [Act.put, List.setIfInBounds_toArray, List.set_cons_zero, List.set_cons_succ]
          refine wpAnyH_take (i := 35) (oi := { dst := some 117, op := Op.pick (Operand.tmp 106) (Operand.tmp 116) (Operand.const (Value.bool false)), type := 4, pos := "outright.go:35", after := #[{ on := 24, ground := Ground.data }, { on := 34, ground := Ground.data }], guard := none }) (v := .bool true) rfl (by kernel_rfl) (by kernel_rfl) (by kernel_rfl) (fun _ _ _ h => h) (Or.inl ⟨by rfl, ?_⟩) hH1 ?_
          · intro w' hSw
            obtain ⟨z1, -, z3, -⟩ := hSw
            have y0 : w'.cell? ⟨w4.heap.size, 0, none⟩ = some (.int .i64 (d : Int)) := z1.cell 0
            have y1 : w'.cell? ⟨w2.heap.size, 32, none⟩ = some (.int .i64 ((2 * j : Nat) : Int)) := (z3.cell 32).trans H32.out
            clear z1 z3
            go_simp
          simp only [Act.put, List.setIfInBounds_toArray, List.set_cons_zero, List.set_cons_succ]
          refine wpAnyH_ready (rs := [36]) (by kernel_rfl) (by simp) (AllReadyH.cons rfl (fun K hK => ?_) AllReadyH.nil)
          go_simp
          refine hK.out _ _ HS5.out (fun hH2 => ?_)
          clear hK K
          refine wpAnyH_done (by kernel_rfl) ?_ _
          have HE := Lib.hid HS5.out.2.2.2
          clear hHeld hH1 hH2
          rename_i Kz hKz
          refine hKz _ _ ?_
          go_wp2_with fail
          go_ret
          exact ⟨rfl, HE.out⟩
      · have hj2 : 2 ≤ j := by omega
        go_loopw [8, 9] (fun nd k wx => ∃ q : Nat, q ≤ d ∧ nd = .int .i64 (nodesTo j (q - 1) : Int) ∧ k = .int .i64 (lenAt j q : Int) ∧ W3 = wx) (fun _ k _ => (intOf k).toNat)
        case atStart => exact ⟨0, by omega, rfl, rfl, rfl⟩
        case round =>
          obtain ⟨q, hq, rfl, rfl, rfl⟩ := hrel
          rcases Nat.eq_zero_or_pos q with hq0 | hq0
          · subst hq0
            rw [show lenAt j 0 = j from rfl, show nodesTo j (0 - 1) = 0 from rfl]
            have hk1 : ((j : Int) == 1) = false := by rw [beq_eq_false_iff_ne]; omega
            go_wp2_with fail
            go_roundw
            case rel => exact ⟨1, hd1, rfl, by rw [show lenAt j 1 = (j + 7) / 8 from rfl]; congr 1; omega, by first | rfl | trivial⟩
            case measure => simp [intOf]; omega
          · have hne := lenAt_ne hj2 q hq0
            have hps := lenAt_pos hm1 q
            have hns := nodesTo_le j (by omega) (q - 1)
            have HNX := Lib.hid (show lenAt j (q + 1) = (lenAt j q + 7) / 8 from rfl)
            have HNT := Lib.hid (show nodesTo j q = nodesTo j (q - 1) + lenAt j q by obtain ⟨r, rfl⟩ : ∃ r, q = r + 1 := ⟨q - 1, by omega⟩; rfl)
            have HONE := Lib.hid (fun h => depth_of_one (n := j) hq0 (by rw [← HDE.out]; exact hq) h)
            have HMORE := Lib.hid (fun h => depth_more (n := j) hm1 (by rw [← HDE.out]; exact hq) h)
            have hl8 := (nodesTo_le j (by omega) q).2
            obtain ⟨kk, hkk⟩ : ∃ k, k = lenAt j q := ⟨_, rfl⟩
            obtain ⟨nn, hnn⟩ : ∃ k, k = nodesTo j (q - 1) := ⟨_, rfl⟩
            rw [← hkk] at hne hps HNX HNT HONE HMORE hl8 ⊢
            rw [← hnn] at HNT hns ⊢
            have hkn : ((kk : Int) != (j : Int)) = true := by simp; omega
            clear hkk hnn
            by_cases hk : kk = 1
            · have hqd : q = d := by rw [HDE.out]; exact HONE.out hk
              have hal1 : L + 1 ≤ j + (nn + kk) ∧ j + (nn + kk) ≤ L + 1 := by have : L + 1 = j + (nn + kk) := by rw [HAL.out, ← hqd, HNT.out]
                                                                              omega
              have hk1 : ((kk : Int) == 1) = true := by rw [hk]; rfl
              clear hqd hk
              have hT33 : W3.cell? ⟨go, L * 34 + 33, none⟩ = some (.string (str T)) := HT3.out
              go_wp2_with fail
              refine (HPA.out _).mono ?_
              rintro e w4 ⟨v4, rfl, hp4, hb4⟩
              obtain ⟨a4, cap4, hv4, -, -⟩ := hp4.form
              subst hv4
              have HB4 := Lib.hid hb4
              clear hT33 HPA hb4 hp4
              go_wp2_with fail
              obtain ⟨W5, hW5⟩ : ∃ W, W = w4.alloc (.cells #[.int .i64 (d : Int), .slice a4 tp.length cap4] Tnd) := ⟨_, rfl⟩
              have HB5 := Lib.hid (show Below w4.heap.size w4 W5 by rw [hW5]; exact belowSelf w4 _)
              have HS5 := Lib.hid (show AW3 w w4.heap.size w2.heap.size go L (d : Int) (.slice a4 tp.length cap4) R T ((2 * j : Nat) : Int) W5.drew from ⟨by rw [hW5]; exact (Mem.new w4 Tnd [.int .i64 (d : Int), .slice a4 tp.length cap4]).drew, fun q u hu => ((below_drewN (belowThen (belowThen HB3.out HB4.out) HB5.out) 1).cell (p := ⟨go, L * 34 + q, none⟩) hglt).trans (HRN.out q u hu), HM3.out.below (below_drewN (belowThen HB4.out HB5.out) 1) HM3.out.lt, below_drewN (belowThen HB2.out (belowThen (belowThen HB3.out HB4.out) HB5.out)) 1⟩)
              rw [← hW5]
              clear hW5
              have SZR := Lib.hid (sz_id R HRE.out)
              have hwA : IntKind.i64.wrap ((j : Int) + ((nn : Int) + (kk : Int))) = (j : Int) + ((nn : Int) + (kk : Int)) := IntWalk.i64_in _ (by omega)
              have hwB : IntKind.i64.wrap (2 * (j : Int)) = 2 * (j : Int) := IntWalk.i64_in _ (by omega)
              have hwC : IntKind.i64.wrap (L : Int) = (L : Int) := IntWalk.i64_in _ (by omega)
              have heR : ∀ W, (binOp .eql TI (.agg (R.map byteV).toArray) (.agg (R.map byteV).toArray)).run Tryd.prog W = .ok (.bool true) W := fun W => by
                rw [run_eql_bytes (P := Tryd.prog) TI 5 32 Tryd.underlying41 Tryd.underlying5 (by kernel_rfl) R R HRE.out HRE.out W]; simp
              refine wp_region_held_drew (S := AW3 w w4.heap.size w2.heap.size go L (d : Int) (.slice a4 tp.length cap4) R T ((2 * j : Nat) : Int)) (by kernel_rfl) HS5.out (fun hHeld => ?_)
              refine wpAnyH_take (i := 0) (oi := { dst := some 82, op := Op.move (Operand.tmp 11), type := 26, pos := "outright.go:35", after := #[], guard := none }) (v := .int .i64 0) rfl (by kernel_rfl) (by kernel_rfl) (by kernel_rfl) (fun _ _ _ h => h) (Or.inl ⟨by rfl, ?_⟩) hHeld ?_
              · intro w' hSw
                obtain ⟨z1, -, z3, -⟩ := hSw
                have y0 : w'.cell? ⟨w4.heap.size, 0, none⟩ = some (.int .i64 (d : Int)) := z1.cell 0
                have y1 : w'.cell? ⟨w2.heap.size, 32, none⟩ = some (.int .i64 ((2 * j : Nat) : Int)) := (z3.cell 32).trans H32.out
                clear z1 z3
                go_simp
              simp only [Act.put, List.setIfInBounds_toArray, List.set_cons_zero, List.set_cons_succ]
              refine wpAnyH_take (i := 1) (oi := { dst := some 83, op := Op.binOp BinOp.eql 26 (Operand.tmp 82) (Operand.const (Value.int IntKind.i64 0)) 26, type := 4, pos := "outright.go:35", after := #[{ on := 0, ground := Ground.data }], guard := none }) (v := .bool true) rfl (by kernel_rfl) (by kernel_rfl) (by kernel_rfl) (fun _ _ _ h => h) (Or.inl ⟨by rfl, ?_⟩) hHeld ?_
              · intro w' hSw
                obtain ⟨z1, -, z3, -⟩ := hSw
                have y0 : w'.cell? ⟨w4.heap.size, 0, none⟩ = some (.int .i64 (d : Int)) := z1.cell 0
                have y1 : w'.cell? ⟨w2.heap.size, 32, none⟩ = some (.int .i64 ((2 * j : Nat) : Int)) := (z3.cell 32).trans H32.out
                clear z1 z3
                go_simp
              simp only [Act.put, List.setIfInBounds_toArray, List.set_cons_zero, List.set_cons_succ]
              refine wpAnyH_take (i := 2) (oi := { dst := some 84, op := Op.move (Operand.tmp 83), type := 4, pos := "outright.go:35", after := #[{ on := 1, ground := Ground.data }], guard := none }) (v := .bool true) rfl (by kernel_rfl) (by kernel_rfl) (by kernel_rfl) (fun _ _ _ h => h) (Or.inl ⟨by rfl, ?_⟩) hHeld ?_
              · intro w' hSw
                obtain ⟨z1, -, z3, -⟩ := hSw
                have y0 : w'.cell? ⟨w4.heap.size, 0, none⟩ = some (.int .i64 (d : Int)) := z1.cell 0
                have y1 : w'.cell? ⟨w2.heap.size, 32, none⟩ = some (.int .i64 ((2 * j : Nat) : Int)) := (z3.cell 32).trans H32.out
                clear z1 z3
                go_simp
              simp only [Act.put, List.setIfInBounds_toArray, List.set_cons_zero, List.set_cons_succ]
              refine wpAnyH_take (i := 3) (oi := { dst := some 85, op := Op.fieldAddr 25 (Operand.tmp 10) 0, type := 0, pos := "outright.go:35", after := #[{ on := 2, ground := Ground.guard }], guard := some (2, true) }) (v := .pointer (some ⟨w4.heap.size, 0, none⟩)) rfl (by kernel_rfl) (by kernel_rfl) (by kernel_rfl) (fun _ _ _ h => h) (Or.inl ⟨by rfl, ?_⟩) hHeld ?_
              · intro w' hSw
                obtain ⟨z1, -, z3, -⟩ := hSw
                have y0 : w'.cell? ⟨w4.heap.size, 0, none⟩ = some (.int .i64 (d : Int)) := z1.cell 0
                have y1 : w'.cell? ⟨w2.heap.size, 32, none⟩ = some (.int .i64 ((2 * j : Nat) : Int)) := (z3.cell 32).trans H32.out
                clear z1 z3
                go_simp
              simp only [Act.put, List.setIfInBounds_toArray, List.set_cons_zero, List.set_cons_succ]
              refine wpAnyH_take (i := 4) (oi := { dst := some 86, op := Op.load 3 (Operand.tmp 85), type := 3, pos := "outright.go:35", after := #[{ on := 3, ground := Ground.data }, { on := 2, ground := Ground.guard }], guard := some (2, true) }) (v := .int .i64 (d : Int)) rfl (by kernel_rfl) (by kernel_rfl) (by kernel_rfl) (fun _ _ _ h => h) (Or.inl ⟨by rfl, ?_⟩) hHeld ?_
              · intro w' hSw
                obtain ⟨z1, -, z3, -⟩ := hSw
                have y0 : w'.cell? ⟨w4.heap.size, 0, none⟩ = some (.int .i64 (d : Int)) := z1.cell 0
                have y1 : w'.cell? ⟨w2.heap.size, 32, none⟩ = some (.int .i64 ((2 * j : Nat) : Int)) := (z3.cell 32).trans H32.out
                clear z1 z3
                go_simp
              simp only [Act.put, List.setIfInBounds_toArray, List.set_cons_zero, List.set_cons_succ]
              refine wpAnyH_take (i := 5) (oi := { dst := some 87, op := Op.move (Operand.tmp 0), type := 3, pos := "outright.go:35", after := #[{ on := 2, ground := Ground.guard }], guard := some (2, true) }) (v := .int .i64 (j : Int)) rfl (by kernel_rfl) (by kernel_rfl) (by kernel_rfl) (fun _ _ _ h => h) (Or.inl ⟨by rfl, ?_⟩) hHeld ?_
              · intro w' hSw
                obtain ⟨z1, -, z3, -⟩ := hSw
                have y0 : w'.cell? ⟨w4.heap.size, 0, none⟩ = some (.int .i64 (d : Int)) := z1.cell 0
                have y1 : w'.cell? ⟨w2.heap.size, 32, none⟩ = some (.int .i64 ((2 * j : Nat) : Int)) := (z3.cell 32).trans H32.out
                clear z1 z3
                go_simp
              simp only [Act.put, List.setIfInBounds_toArray, List.set_cons_zero, List.set_cons_succ]
              refine wpAnyH_ready (rs := [6]) (by kernel_rfl) (by simp) (AllReadyH.cons rfl (fun K hK => ?_) AllReadyH.nil)
              go_simp
              refine (HDP.out _).mono ?_
              rintro e w6 ⟨rfl, rfl⟩
              dsimp only
              refine hK.out _ _ HS5.out (fun hH1 => ?_)
              clear hK K
              refine wpAnyH_take (i := 7) (oi := { dst := some 89, op := Op.binOp BinOp.eql 3 (Operand.tmp 86) (Operand.tmp 88) 3, type := 4, pos := "outright.go:35", after := #[{ on := 4, ground := Ground.data }, { on := 6, ground := Ground.data }, { on := 2, ground := Ground.guard }], guard := some (2, true) }) (v := .bool true) rfl (by kernel_rfl) (by kernel_rfl) (by kernel_rfl) (fun _ _ _ h => h) (Or.inl ⟨by rfl, ?_⟩) hH1 ?_
              · intro w' hSw
                obtain ⟨z1, -, z3, -⟩ := hSw
                have y0 : w'.cell? ⟨w4.heap.size, 0, none⟩ = some (.int .i64 (d : Int)) := z1.cell 0
                have y1 : w'.cell? ⟨w2.heap.size, 32, none⟩ = some (.int .i64 ((2 * j : Nat) : Int)) := (z3.cell 32).trans H32.out
                clear z1 z3
                go_simp
              simp only [Act.put, List.setIfInBounds_toArray, List.set_cons_zero, List.set_cons_succ]
              refine wpAnyH_take (i := 8) (oi := { dst := some 90, op := Op.pick (Operand.tmp 84) (Operand.tmp 89) (Operand.const (Value.bool false)), type := 4, pos := "outright.go:35", after := #[{ on := 2, ground := Ground.data }, { on := 7, ground := Ground.data }], guard := none }) (v := .bool true) rfl (by kernel_rfl) (by kernel_rfl) (by kernel_rfl) (fun _ _ _ h => h) (Or.inl ⟨by rfl, ?_⟩) hH1 ?_
              · intro w' hSw
                obtain ⟨z1, -, z3, -⟩ := hSw
                have y0 : w'.cell? ⟨w4.heap.size, 0, none⟩ = some (.int .i64 (d : Int)) := z1.cell 0
                have y1 : w'.cell? ⟨w2.heap.size, 32, none⟩ = some (.int .i64 ((2 * j : Nat) : Int)) := (z3.cell 32).trans H32.out
                clear z1 z3
                go_simp
              simp only [Act.put, List.setIfInBounds_toArray, List.set_cons_zero, List.set_cons_succ]
              refine wpAnyH_take (i := 9) (oi := { dst := some 91, op := Op.move (Operand.tmp 90), type := 4, pos := "outright.go:35", after := #[{ on := 8, ground := Ground.data }, { on := 6, ground := Ground.chain }], guard := none }) (v := .bool true) rfl (by kernel_rfl) (by kernel_rfl) (by kernel_rfl) (fun _ _ _ h => h) (Or.inl ⟨by rfl, ?_⟩) hH1 ?_
              · intro w' hSw
                obtain ⟨z1, -, z3, -⟩ := hSw
                have y0 : w'.cell? ⟨w4.heap.size, 0, none⟩ = some (.int .i64 (d : Int)) := z1.cell 0
                have y1 : w'.cell? ⟨w2.heap.size, 32, none⟩ = some (.int .i64 ((2 * j : Nat) : Int)) := (z3.cell 32).trans H32.out
                clear z1 z3
                go_simp
              simp only [Act.put, List.setIfInBounds_toArray, List.set_cons_zero, List.set_cons_succ]
              refine wpAnyH_take (i := 10) (oi := { dst := some 92, op := Op.move (Operand.tmp 6), type := 44, pos := "outright.go:35", after := #[{ on := 9, ground := Ground.guard }], guard := some (9, true) }) (v := .slice (some ⟨go, 0, none⟩) (L + 1) capo) rfl (by kernel_rfl) (by kernel_rfl) (by kernel_rfl) (fun _ _ _ h => h) (Or.inl ⟨by rfl, ?_⟩) hH1 ?_
              · intro w' hSw
                obtain ⟨z1, -, z3, -⟩ := hSw
                have y0 : w'.cell? ⟨w4.heap.size, 0, none⟩ = some (.int .i64 (d : Int)) := z1.cell 0
                have y1 : w'.cell? ⟨w2.heap.size, 32, none⟩ = some (.int .i64 ((2 * j : Nat) : Int)) := (z3.cell 32).trans H32.out
                clear z1 z3
                go_simp
              simp only [Act.put, List.setIfInBounds_toArray, List.set_cons_zero, List.set_cons_succ]
              refine wpAnyH_take (i := 11) (oi := { dst := some 93, op := Op.call { callee := Callee.builtin Builtin.len, args := #[Operand.tmp 92], argTypes := #[44] }, type := 3, pos := "outright.go:35", after := #[{ on := 10, ground := Ground.data }, { on := 9, ground := Ground.guard }], guard := some (9, true) }) (v := .int .i64 ((L : Int) + 1)) rfl (by kernel_rfl) (by kernel_rfl) (by kernel_rfl) (fun _ _ _ h => h) (Or.inl ⟨by rfl, ?_⟩) hH1 ?_
              · intro w' hSw
                obtain ⟨z1, -, z3, -⟩ := hSw
                have y0 : w'.cell? ⟨w4.heap.size, 0, none⟩ = some (.int .i64 (d : Int)) := z1.cell 0
                have y1 : w'.cell? ⟨w2.heap.size, 32, none⟩ = some (.int .i64 ((2 * j : Nat) : Int)) := (z3.cell 32).trans H32.out
                clear z1 z3
                go_simp
              simp only [Act.put, List.setIfInBounds_toArray, List.set_cons_zero, List.set_cons_succ]
              refine wpAnyH_take (i := 12) (oi := { dst := some 94, op := Op.move (Operand.tmp 0), type := 3, pos := "outright.go:35", after := #[{ on := 9, ground := Ground.guard }], guard := some (9, true) }) (v := .int .i64 (j : Int)) rfl (by kernel_rfl) (by kernel_rfl) (by kernel_rfl) (fun _ _ _ h => h) (Or.inl ⟨by rfl, ?_⟩) hH1 ?_
              · intro w' hSw
                obtain ⟨z1, -, z3, -⟩ := hSw
                have y0 : w'.cell? ⟨w4.heap.size, 0, none⟩ = some (.int .i64 (d : Int)) := z1.cell 0
                have y1 : w'.cell? ⟨w2.heap.size, 32, none⟩ = some (.int .i64 ((2 * j : Nat) : Int)) := (z3.cell 32).trans H32.out
                clear z1 z3
                go_simp
              simp only [Act.put, List.setIfInBounds_toArray, List.set_cons_zero, List.set_cons_succ]
              refine wpAnyH_take (i := 13) (oi := { dst := some 95, op := Op.move (Operand.tmp 8), type := 3, pos := "outright.go:35", after := #[{ on := 9, ground := Ground.guard }], guard := some (9, true) }) (v := .int .i64 ((nn : Int) + (kk : Int))) rfl (by kernel_rfl) (by kernel_rfl) (by kernel_rfl) (fun _ _ _ h => h) (Or.inl ⟨by rfl, ?_⟩) hH1 ?_
              · intro w' hSw
                obtain ⟨z1, -, z3, -⟩ := hSw
                have y0 : w'.cell? ⟨w4.heap.size, 0, none⟩ = some (.int .i64 (d : Int)) := z1.cell 0
                have y1 : w'.cell? ⟨w2.heap.size, 32, none⟩ = some (.int .i64 ((2 * j : Nat) : Int)) := (z3.cell 32).trans H32.out
                clear z1 z3
                go_simp
              simp only [Act.put, List.setIfInBounds_toArray, List.set_cons_zero, List.set_cons_succ]
              refine wpAnyH_take (i := 14) (oi := { dst := some 96, op := Op.binOp BinOp.add 3 (Operand.tmp 94) (Operand.tmp 95) 3, type := 3, pos := "outright.go:35", after := #[{ on := 12, ground := Ground.data }, { on := 13, ground := Ground.data }, { on := 9, ground := Ground.guard }], guard := some (9, true) }) (v := .int .i64 ((j : Int) + ((nn : Int) + (kk : Int)))) rfl (by kernel_rfl) (by kernel_rfl) (by kernel_rfl) (fun _ _ _ h => h) (Or.inl ⟨by rfl, ?_⟩) hH1 ?_
              · intro w' hSw
                obtain ⟨z1, -, z3, -⟩ := hSw
                have y0 : w'.cell? ⟨w4.heap.size, 0, none⟩ = some (.int .i64 (d : Int)) := z1.cell 0
                have y1 : w'.cell? ⟨w2.heap.size, 32, none⟩ = some (.int .i64 ((2 * j : Nat) : Int)) := (z3.cell 32).trans H32.out
                clear z1 z3
                go_simp <;> omega
              simp only [Act.put, List.setIfInBounds_toArray, List.set_cons_zero, List.set_cons_succ]
              refine wpAnyH_take (i := 15) (oi := { dst := some 97, op := Op.binOp BinOp.eql 3 (Operand.tmp 93) (Operand.tmp 96) 3, type := 4, pos := "outright.go:35", after := #[{ on := 11, ground := Ground.data }, { on := 14, ground := Ground.data }, { on := 9, ground := Ground.guard }], guard := some (9, true) }) (v := .bool true) rfl (by kernel_rfl) (by kernel_rfl) (by kernel_rfl) (fun _ _ _ h => h) (Or.inl ⟨by rfl, ?_⟩) hH1 ?_
              · intro w' hSw
                obtain ⟨z1, -, z3, -⟩ := hSw
                have y0 : w'.cell? ⟨w4.heap.size, 0, none⟩ = some (.int .i64 (d : Int)) := z1.cell 0
                have y1 : w'.cell? ⟨w2.heap.size, 32, none⟩ = some (.int .i64 ((2 * j : Nat) : Int)) := (z3.cell 32).trans H32.out
                clear z1 z3
                go_simp <;> omega
              simp only [Act.put, List.setIfInBounds_toArray, List.set_cons_zero, List.set_cons_succ]
              refine wpAnyH_take (i := 16) (oi := { dst := some 98, op := Op.pick (Operand.tmp 91) (Operand.tmp 97) (Operand.const (Value.bool false)), type := 4, pos := "outright.go:35", after := #[{ on := 9, ground := Ground.data }, { on := 15, ground := Ground.data }], guard := none }) (v := .bool true) rfl (by kernel_rfl) (by kernel_rfl) (by kernel_rfl) (fun _ _ _ h => h) (Or.inl ⟨by rfl, ?_⟩) hH1 ?_
              · intro w' hSw
                obtain ⟨z1, -, z3, -⟩ := hSw
                have y0 : w'.cell? ⟨w4.heap.size, 0, none⟩ = some (.int .i64 (d : Int)) := z1.cell 0
                have y1 : w'.cell? ⟨w2.heap.size, 32, none⟩ = some (.int .i64 ((2 * j : Nat) : Int)) := (z3.cell 32).trans H32.out
                clear z1 z3
                go_simp
              simp only [Act.put, List.setIfInBounds_toArray, List.set_cons_zero, List.set_cons_succ]
              refine wpAnyH_take (i := 17) (oi := { dst := some 99, op := Op.move (Operand.tmp 98), type := 4, pos := "outright.go:35", after := #[{ on := 16, ground := Ground.data }, { on := 9, ground := Ground.chain }], guard := none }) (v := .bool true) rfl (by kernel_rfl) (by kernel_rfl) (by kernel_rfl) (fun _ _ _ h => h) (Or.inl ⟨by rfl, ?_⟩) hH1 ?_
              · intro w' hSw
                obtain ⟨z1, -, z3, -⟩ := hSw
                have y0 : w'.cell? ⟨w4.heap.size, 0, none⟩ = some (.int .i64 (d : Int)) := z1.cell 0
                have y1 : w'.cell? ⟨w2.heap.size, 32, none⟩ = some (.int .i64 ((2 * j : Nat) : Int)) := (z3.cell 32).trans H32.out
                clear z1 z3
                go_simp
              simp only [Act.put, List.setIfInBounds_toArray, List.set_cons_zero, List.set_cons_succ]
              refine wpAnyH_take (i := 18) (oi := { dst := some 100, op := Op.fieldAddr 43 (Operand.tmp 5) 1, type := 0, pos := "outright.go:35", after := #[{ on := 17, ground := Ground.guard }], guard := some (17, true) }) (v := .pointer (some ⟨w2.heap.size, 32, none⟩)) rfl (by kernel_rfl) (by kernel_rfl) (by kernel_rfl) (fun _ _ _ h => h) (Or.inl ⟨by rfl, ?_⟩) hH1 ?_
              · intro w' hSw
                obtain ⟨z1, -, z3, -⟩ := hSw
                have y0 : w'.cell? ⟨w4.heap.size, 0, none⟩ = some (.int .i64 (d : Int)) := z1.cell 0
                have y1 : w'.cell? ⟨w2.heap.size, 32, none⟩ = some (.int .i64 ((2 * j : Nat) : Int)) := (z3.cell 32).trans H32.out
                clear z1 z3
                go_simp
              simp only [Act.put, List.setIfInBounds_toArray, List.set_cons_zero, List.set_cons_succ]
              refine wpAnyH_take (i := 19) (oi := { dst := some 101, op := Op.load 3 (Operand.tmp 100), type := 3, pos := "outright.go:35", after := #[{ on := 18, ground := Ground.data }, { on := 17, ground := Ground.guard }], guard := some (17, true) }) (v := .int .i64 ((2 * j : Nat) : Int)) rfl (by kernel_rfl) (by kernel_rfl) (by kernel_rfl) (fun _ _ _ h => h) (Or.inl ⟨by rfl, ?_⟩) hH1 ?_
              · intro w' hSw
                obtain ⟨z1, -, z3, -⟩ := hSw
                have y0 : w'.cell? ⟨w4.heap.size, 0, none⟩ = some (.int .i64 (d : Int)) := z1.cell 0
                have y1 : w'.cell? ⟨w2.heap.size, 32, none⟩ = some (.int .i64 ((2 * j : Nat) : Int)) := (z3.cell 32).trans H32.out
                clear z1 z3
                go_simp
              simp only [Act.put, List.setIfInBounds_toArray, List.set_cons_zero, List.set_cons_succ]
              refine wpAnyH_take (i := 20) (oi := { dst := some 102, op := Op.move (Operand.tmp 0), type := 3, pos := "outright.go:35", after := #[{ on := 17, ground := Ground.guard }], guard := some (17, true) }) (v := .int .i64 (j : Int)) rfl (by kernel_rfl) (by kernel_rfl) (by kernel_rfl) (fun _ _ _ h => h) (Or.inl ⟨by rfl, ?_⟩) hH1 ?_
              · intro w' hSw
                obtain ⟨z1, -, z3, -⟩ := hSw
                have y0 : w'.cell? ⟨w4.heap.size, 0, none⟩ = some (.int .i64 (d : Int)) := z1.cell 0
                have y1 : w'.cell? ⟨w2.heap.size, 32, none⟩ = some (.int .i64 ((2 * j : Nat) : Int)) := (z3.cell 32).trans H32.out
                clear z1 z3
                go_simp
              simp only [Act.put, List.setIfInBounds_toArray, List.set_cons_zero, List.set_cons_succ]
              refine wpAnyH_take (i := 21) (oi := { dst := some 103, op := Op.binOp BinOp.mul 3 (Operand.const (Value.int IntKind.i64 2)) (Operand.tmp 102) 3, type := 3, pos := "outright.go:35", after := #[{ on := 20, ground := Ground.data }, { on := 17, ground := Ground.guard }], guard := some (17, true) }) (v := .int .i64 (2 * (j : Int))) rfl (by kernel_rfl) (by kernel_rfl) (by kernel_rfl) (fun _ _ _ h => h) (Or.inl ⟨by rfl, ?_⟩) hH1 ?_
              · intro w' hSw
                obtain ⟨z1, -, z3, -⟩ := hSw
                have y0 : w'.cell? ⟨w4.heap.size, 0, none⟩ = some (.int .i64 (d : Int)) := z1.cell 0
                have y1 : w'.cell? ⟨w2.heap.size, 32, none⟩ = some (.int .i64 ((2 * j : Nat) : Int)) := (z3.cell 32).trans H32.out
                clear z1 z3
                go_simp <;> omega
              simp only [Act.put, List.setIfInBounds_toArray, List.set_cons_zero, List.set_cons_succ]
              refine wpAnyH_take (i := 22) (oi := { dst := some 104, op := Op.binOp BinOp.eql 3 (Operand.tmp 101) (Operand.tmp 103) 3, type := 4, pos := "outright.go:35", after := #[{ on := 19, ground := Ground.data }, { on := 21, ground := Ground.data }, { on := 17, ground := Ground.guard }], guard := some (17, true) }) (v := .bool true) rfl (by kernel_rfl) (by kernel_rfl) (by kernel_rfl) (fun _ _ _ h => h) (Or.inl ⟨by rfl, ?_⟩) hH1 ?_
              · intro w' hSw
                obtain ⟨z1, -, z3, -⟩ := hSw
                have y0 : w'.cell? ⟨w4.heap.size, 0, none⟩ = some (.int .i64 (d : Int)) := z1.cell 0
                have y1 : w'.cell? ⟨w2.heap.size, 32, none⟩ = some (.int .i64 ((2 * j : Nat) : Int)) := (z3.cell 32).trans H32.out
                clear z1 z3
                go_simp <;> omega
              simp only [Act.put, List.setIfInBounds_toArray, List.set_cons_zero, List.set_cons_succ]
              refine wpAnyH_take (i := 23) (oi := { dst := some 105, op := Op.pick (Operand.tmp 99) (Operand.tmp 104) (Operand.const (Value.bool false)), type := 4, pos := "outright.go:35", after := #[{ on := 17, ground := Ground.data }, { on := 22, ground := Ground.data }], guard := none }) (v := .bool true) rfl (by kernel_rfl) (by kernel_rfl) (by kernel_rfl) (fun _ _ _ h => h) (Or.inl ⟨by rfl, ?_⟩) hH1 ?_
              · intro w' hSw
                obtain ⟨z1, -, z3, -⟩ := hSw
                have y0 : w'.cell? ⟨w4.heap.size, 0, none⟩ = some (.int .i64 (d : Int)) := z1.cell 0
                have y1 : w'.cell? ⟨w2.heap.size, 32, none⟩ = some (.int .i64 ((2 * j : Nat) : Int)) := (z3.cell 32).trans H32.out
                clear z1 z3
                go_simp
              simp only [Act.put, List.setIfInBounds_toArray, List.set_cons_zero, List.set_cons_succ]
              refine wpAnyH_take (i := 24) (oi := { dst := some 106, op := Op.move (Operand.tmp 105), type := 4, pos := "outright.go:35", after := #[{ on := 23, ground := Ground.data }, { on := 17, ground := Ground.chain }], guard := none }) (v := .bool true) rfl (by kernel_rfl) (by kernel_rfl) (by kernel_rfl) (fun _ _ _ h => h) (Or.inl ⟨by rfl, ?_⟩) hH1 ?_
              · intro w' hSw
                obtain ⟨z1, -, z3, -⟩ := hSw
                have y0 : w'.cell? ⟨w4.heap.size, 0, none⟩ = some (.int .i64 (d : Int)) := z1.cell 0
                have y1 : w'.cell? ⟨w2.heap.size, 32, none⟩ = some (.int .i64 ((2 * j : Nat) : Int)) := (z3.cell 32).trans H32.out
                clear z1 z3
                go_simp
              simp only [Act.put, List.setIfInBounds_toArray, List.set_cons_zero, List.set_cons_succ]
              refine wpAnyH_take (i := 25) (oi := { dst := some 107, op := Op.move (Operand.tmp 6), type := 44, pos := "outright.go:35", after := #[{ on := 24, ground := Ground.guard }], guard := some (24, true) }) (v := .slice (some ⟨go, 0, none⟩) (L + 1) capo) rfl (by kernel_rfl) (by kernel_rfl) (by kernel_rfl) (fun _ _ _ h => h) (Or.inl ⟨by rfl, ?_⟩) hH1 ?_
              · intro w' hSw
                obtain ⟨z1, -, z3, -⟩ := hSw
                have y0 : w'.cell? ⟨w4.heap.size, 0, none⟩ = some (.int .i64 (d : Int)) := z1.cell 0
                have y1 : w'.cell? ⟨w2.heap.size, 32, none⟩ = some (.int .i64 ((2 * j : Nat) : Int)) := (z3.cell 32).trans H32.out
                clear z1 z3
                go_simp
              simp only [Act.put, List.setIfInBounds_toArray, List.set_cons_zero, List.set_cons_succ]
              refine wpAnyH_take (i := 26) (oi := { dst := some 108, op := Op.move (Operand.tmp 6), type := 44, pos := "outright.go:35", after := #[{ on := 24, ground := Ground.guard }], guard := some (24, true) }) (v := .slice (some ⟨go, 0, none⟩) (L + 1) capo) rfl (by kernel_rfl) (by kernel_rfl) (by kernel_rfl) (fun _ _ _ h => h) (Or.inl ⟨by rfl, ?_⟩) hH1 ?_
              · intro w' hSw
                obtain ⟨z1, -, z3, -⟩ := hSw
                have y0 : w'.cell? ⟨w4.heap.size, 0, none⟩ = some (.int .i64 (d : Int)) := z1.cell 0
                have y1 : w'.cell? ⟨w2.heap.size, 32, none⟩ = some (.int .i64 ((2 * j : Nat) : Int)) := (z3.cell 32).trans H32.out
                clear z1 z3
                go_simp
              simp only [Act.put, List.setIfInBounds_toArray, List.set_cons_zero, List.set_cons_succ]
              refine wpAnyH_take (i := 27) (oi := { dst := some 109, op := Op.call { callee := Callee.builtin Builtin.len, args := #[Operand.tmp 108], argTypes := #[44] }, type := 3, pos := "outright.go:35", after := #[{ on := 26, ground := Ground.data }, { on := 24, ground := Ground.guard }], guard := some (24, true) }) (v := .int .i64 ((L : Int) + 1)) rfl (by kernel_rfl) (by kernel_rfl) (by kernel_rfl) (fun _ _ _ h => h) (Or.inl ⟨by rfl, ?_⟩) hH1 ?_
              · intro w' hSw
                obtain ⟨z1, -, z3, -⟩ := hSw
                have y0 : w'.cell? ⟨w4.heap.size, 0, none⟩ = some (.int .i64 (d : Int)) := z1.cell 0
                have y1 : w'.cell? ⟨w2.heap.size, 32, none⟩ = some (.int .i64 ((2 * j : Nat) : Int)) := (z3.cell 32).trans H32.out
                clear z1 z3
                go_simp
              simp only [Act.put, List.setIfInBounds_toArray, List.set_cons_zero, List.set_cons_succ]
              refine wpAnyH_take (i := 28) (oi := { dst := some 110, op := Op.binOp BinOp.sub 3 (Operand.tmp 109) (Operand.const (Value.int IntKind.i64 1)) 3, type := 3, pos := "outright.go:35", after := #[{ on := 27, ground := Ground.data }, { on := 24, ground := Ground.guard }], guard := some (24, true) }) (v := .int .i64 (L : Int)) rfl (by kernel_rfl) (by kernel_rfl) (by kernel_rfl) (fun _ _ _ h => h) (Or.inl ⟨by rfl, ?_⟩) hH1 ?_
              · intro w' hSw
                obtain ⟨z1, -, z3, -⟩ := hSw
                have y0 : w'.cell? ⟨w4.heap.size, 0, none⟩ = some (.int .i64 (d : Int)) := z1.cell 0
                have y1 : w'.cell? ⟨w2.heap.size, 32, none⟩ = some (.int .i64 ((2 * j : Nat) : Int)) := (z3.cell 32).trans H32.out
                clear z1 z3
                go_simp <;> omega
              simp only [Act.put, List.setIfInBounds_toArray, List.set_cons_zero, List.set_cons_succ]
              refine wpAnyH_take (i := 29) (oi := { dst := some 111, op := Op.indexAddr 44 (Operand.tmp 107) (Operand.tmp 110), type := 0, pos := "outright.go:35", after := #[{ on := 25, ground := Ground.data }, { on := 28, ground := Ground.data }, { on := 24, ground := Ground.guard }], guard := some (24, true) }) (v := .pointer (some ⟨go, L * 34, none⟩)) rfl (by kernel_rfl) (by kernel_rfl) (by kernel_rfl) (fun _ _ _ h => h) (Or.inl ⟨by rfl, ?_⟩) hH1 ?_
              · intro w' hSw
                obtain ⟨z1, -, z3, -⟩ := hSw
                have y0 : w'.cell? ⟨w4.heap.size, 0, none⟩ = some (.int .i64 (d : Int)) := z1.cell 0
                have y1 : w'.cell? ⟨w2.heap.size, 32, none⟩ = some (.int .i64 ((2 * j : Nat) : Int)) := (z3.cell 32).trans H32.out
                clear z1 z3
                go_simp <;> omega
              simp only [Act.put, List.setIfInBounds_toArray, List.set_cons_zero, List.set_cons_succ]
              refine wpAnyH_take (i := 30) (oi := { dst := some 112, op := Op.fieldAddr 55 (Operand.tmp 111) 1, type := 0, pos := "outright.go:35", after := #[{ on := 29, ground := Ground.data }, { on := 24, ground := Ground.guard }], guard := some (24, true) }) (v := .pointer (some ⟨go, L * 34 + 1, none⟩)) rfl (by kernel_rfl) (by kernel_rfl) (by kernel_rfl) (fun _ _ _ h => h) (Or.inl ⟨by rfl, ?_⟩) hH1 ?_
              · intro w' hSw
                obtain ⟨z1, -, z3, -⟩ := hSw
                have y0 : w'.cell? ⟨w4.heap.size, 0, none⟩ = some (.int .i64 (d : Int)) := z1.cell 0
                have y1 : w'.cell? ⟨w2.heap.size, 32, none⟩ = some (.int .i64 ((2 * j : Nat) : Int)) := (z3.cell 32).trans H32.out
                clear z1 z3
                go_simp
              simp only [Act.put, List.setIfInBounds_toArray, List.set_cons_zero, List.set_cons_succ]
              refine wpAnyH_take (i := 31) (oi := { dst := some 113, op := Op.load 41 (Operand.tmp 112), type := 41, pos := "outright.go:35", after := #[{ on := 30, ground := Ground.data }, { on := 24, ground := Ground.guard }], guard := some (24, true) }) (v := _) rfl (by kernel_rfl) (by kernel_rfl) (by kernel_rfl) (fun _ _ _ h => h) (yieldsIf_load_mid (by rfl) TI (.tmp 112) rfl go (L * 34 + 1) rfl (R.map byteV) (.array 32 5) (fun w hS => fun q u hu => by have := hS.2.1 (1 + q) u (by unfold obC; rw [Nat.add_comm 1 q, List.getElem?_cons_succ, List.getElem?_append_left (List.getElem?_eq_some_iff.1 hu).1]; exact hu); rw [← Nat.add_assoc] at this; exact this) Tryd.underlying41 rfl SZR.out) hH1 ?_
              simp only [Act.put, List.setIfInBounds_toArray, List.set_cons_zero, List.set_cons_succ]
              refine wpAnyH_take (i := 32) (oi := { dst := some 114, op := Op.fieldAddr 43 (Operand.tmp 5) 0, type := 0, pos := "outright.go:35", after := #[{ on := 24, ground := Ground.guard }], guard := some (24, true) }) (v := .pointer (some ⟨w2.heap.size, 0, none⟩)) rfl (by kernel_rfl) (by kernel_rfl) (by kernel_rfl) (fun _ _ _ h => h) (Or.inl ⟨by rfl, ?_⟩) hH1 ?_
              · intro w' hSw
                obtain ⟨z1, -, z3, -⟩ := hSw
                have y0 : w'.cell? ⟨w4.heap.size, 0, none⟩ = some (.int .i64 (d : Int)) := z1.cell 0
                have y1 : w'.cell? ⟨w2.heap.size, 32, none⟩ = some (.int .i64 ((2 * j : Nat) : Int)) := (z3.cell 32).trans H32.out
                clear z1 z3
                go_simp
              simp only [Act.put, List.setIfInBounds_toArray, List.set_cons_zero, List.set_cons_succ]
              refine wpAnyH_take (i := 33) (oi := { dst := some 115, op := Op.load 41 (Operand.tmp 114), type := 41, pos := "outright.go:35", after := #[{ on := 32, ground := Ground.data }, { on := 24, ground := Ground.guard }], guard := some (24, true) }) (v := _) rfl (by kernel_rfl) (by kernel_rfl) (by kernel_rfl) (fun _ _ _ h => h) (yieldsIf_load_mid (by rfl) TI (.tmp 114) rfl w2.heap.size (0) rfl (R.map byteV) (.array 32 5) (fun w hS => mem_rng hS.2.2.1) Tryd.underlying41 rfl SZR.out) hH1 ?_
              simp only [Act.put, List.setIfInBounds_toArray, List.set_cons_zero, List.set_cons_succ]
              refine wpAnyH_take (i := 34) (oi := { dst := some 116, op := Op.binOp BinOp.eql 41 (Operand.tmp 113) (Operand.tmp 115) 41, type := 4, pos := "outright.go:35", after := #[{ on := 31, ground := Ground.data }, { on := 33, ground := Ground.data }, { on := 24, ground := Ground.guard }], guard := some (24, true) }) (v := .bool true) rfl (by kernel_rfl) (by kernel_rfl) (by kernel_rfl) (fun _ _ _ h => h) (Or.inl ⟨by rfl, ?_⟩) hH1 ?_
              · intro w' hSw
                obtain ⟨z1, -, z3, -⟩ := hSw
                have y0 : w'.cell? ⟨w4.heap.size, 0, none⟩ = some (.int .i64 (d : Int)) := z1.cell 0
                have y1 : w'.cell? ⟨w2.heap.size, 32, none⟩ = some (.int .i64 ((2 * j : Nat) : Int)) := (z3.cell 32).trans H32.out
                clear z1 z3
                go_simp
              simp only [Act.put, List.setIfInBounds_toArray, List.set_cons_zero, List.set_cons_succ]
              refine wpAnyH_take (i := 35) (oi := { dst := some 117, op := Op.pick (Operand.tmp 106) (Operand.tmp 116) (Operand.const (Value.bool false)), type := 4, pos := "outright.go:35", after := #[{ on := 24, ground := Ground.data }, { on := 34, ground := Ground.data }], guard := none }) (v := .bool true) rfl (by kernel_rfl) (by kernel_rfl) (by kernel_rfl) (fun _ _ _ h => h) (Or.inl ⟨by rfl, ?_⟩) hH1 ?_
              · intro w' hSw
                obtain ⟨z1, -, z3, -⟩ := hSw
                have y0 : w'.cell? ⟨w4.heap.size, 0, none⟩ = some (.int .i64 (d : Int)) := z1.cell 0
                have y1 : w'.cell? ⟨w2.heap.size, 32, none⟩ = some (.int .i64 ((2 * j : Nat) : Int)) := (z3.cell 32).trans H32.out
                clear z1 z3
                go_simp
              simp only [Act.put, List.setIfInBounds_toArray, List.set_cons_zero, List.set_cons_succ]
              refine wpAnyH_ready (rs := [36]) (by kernel_rfl) (by simp) (AllReadyH.cons rfl (fun K hK => ?_) AllReadyH.nil)
              go_simp
              refine hK.out _ _ HS5.out (fun hH2 => ?_)
              clear hK K
              refine wpAnyH_done (by kernel_rfl) ?_ _
              have HE := Lib.hid HS5.out.2.2.2
              clear hHeld hH1 hH2
              rename_i Kz hKz
              refine hKz _ _ ?_
              go_wp2_with fail
              go_ret
              exact ⟨rfl, HE.out⟩
            · have hqd : q + 1 ≤ d := by rw [HDE.out]; exact HMORE.out hk
              have hk1 : ((kk : Int) == 1) = false := by rw [beq_eq_false_iff_ne]; omega
              go_wp2_with fail
              go_roundw
              case rel => exact ⟨q + 1, hqd, by rw [Nat.add_sub_cancel, HNT.out]; push_cast; rfl, by rw [HNX.out]; congr 1; omega, by first | rfl | trivial⟩
              case measure => simp [intOf]; omega
-- END
end Go.Proofs.YtjdhcanblpifcaaDoor
