/-
  The laws of layer 9: awake.
-/
import Derived.Test.YtjdhcanblpifcaaDoorMAw
namespace Go.Proofs.YtjdhcanblpifcaaDoor
open Go.RowKit Crv

theorem ofOne (x : List UInt8) (hx : x.length ≤ 1000000) (W : World) (hc : Consts (W.alloc (.cells #[tx x] 9))) : Calls Tryd.prog 18 #[.int .i64 1, .slice (some ⟨W.heap.size, 0, none⟩) 1 1] (W.alloc (.cells #[tx x] 9)) fun e w' => e = .returned (.agg ((oidOf 1 x).map byteV).toArray) ∧ Below (W.alloc (.cells #[tx x] 9)).heap.size (W.alloc (.cells #[tx x] 9)) w' := by
  have h := ofOid_any 1 (by omega) (.slice (some ⟨W.heap.size, 0, none⟩) 1 1) [x] (W.alloc (.cells #[tx x] 9)) hc (StrSlice.new (w := W) (t := 9) [x] 1) (by simp) (by simpa using hx)
  rw [show [x].flatten = x from by simp] at h
  exact h
def AWS (w : World) (b4 b1 g3 off3 cap3 go : Nat) (A R T : List UInt8) (W : World) : Prop := Mem W b4 Tnd [.int .i64 1, .slice (some ⟨g3, off3, none⟩) 1 cap3] ∧ W.rangeAt g3 off3 (ptC (A, 2)) ∧ W.rangeAt go 34 (obC 2 R T) ∧ Mem W b1 Tpt (ptC (R, 2)) ∧ Below w.heap.size w W
theorem AWS.below {w : World} {b4 b1 g3 off3 cap3 go : Nat} {A R T : List UInt8} {W W' : World} (h : AWS w b4 b1 g3 off3 cap3 go A R T W) (hb : Below W.heap.size W W') : AWS w b4 b1 g3 off3 cap3 go A R T W' :=
  ⟨h.1.below hb h.1.lt, fun j u hu => (hb.cell (p := ⟨g3, off3 + j, none⟩) (World.block_lt_of_cell? W _ (h.2.1 j u hu))).trans (h.2.1 j u hu), fun j u hu => (hb.cell (p := ⟨go, 34 + j, none⟩) (World.block_lt_of_cell? W _ (h.2.2.1 j u hu))).trans (h.2.2.1 j u hu), h.2.2.2.1.below hb h.2.2.2.1.lt, belowThen h.2.2.2.2 hb⟩
set_option maxRecDepth 100000 in
set_option maxHeartbeats 1000000 in
theorem awake9_any (w : World) (hc : Consts w) :
    Calls Tryd.prog 11 #[] w fun e w' => e = .returned (.bool true) ∧ Below w.heap.size w w' := by
  have HC := Lib.hid hc
  have HBD := Lib.hid (build_any (.slice (some ⟨w.heap.size, 0, none⟩) 1 1) [ab] (w.alloc (.cells #[tx ab] 9)) (hc.below (belowSelf w _)) (Txs.new [ab] 1) (by simp) chk_ab)
  rw [all_ab, root_ab] at HBD
  have hA := length_oidOf 1 ab
  have hR := length_oidOf 2 nodeAb
  have HPA := Lib.hid (fun W => parse_any nodeAb W)
  rw [parse_ab] at HPA
  have HOB := Lib.hid (show ([mkOb 1 ab, mkOb 2 nodeAb].map obCs) = [obC 1 (oidOf 1 ab) ab, obC 2 (oidOf 2 nodeAb) nodeAb] from rfl)
  rw [HOB.out] at HBD
  have HOF := Lib.hid (fun W hc => ofOne ab (by decide) W hc)
  have HDN := Lib.hid (show ∀ W, Calls Tryd.prog 19 #[.int .i64 9] W fun e w' => e = .returned (.int .i64 2) ∧ W = w' from fun W => by have := depth_any 9 (by omega) W; rw [depth_nine] at this; exact this)
  obtain ⟨A, hAe⟩ : ∃ x, x = oidOf 1 ab := ⟨_, rfl⟩
  obtain ⟨T, hTe⟩ : ∃ x, x = nodeAb := ⟨_, rfl⟩
  rw [← hTe] at HBD hR HPA
  obtain ⟨R, hRe⟩ : ∃ x, x = oidOf 2 T := ⟨_, rfl⟩
  rw [← hAe] at HBD hA HPA HOF
  rw [← hRe] at HBD hR
  have SZP := Lib.hid (sz_pt (R, 2) hR)
  have HZ := Lib.hid (show (List.replicate 32 (byteV 0) ++ [Value.int .i64 0]).length = (ptC (R, 2)).length by rw [length_ptC (R, 2) hR]; rfl)
  have ONE := Lib.hid (one_ptC (R, 2))
  have HC32 := Lib.hid (show (ptC (R, 2))[32]? = some (.int .i64 2) by simp [ptC, hR])
  have H34 := Lib.hid (length_obC 1 A ab hA)
  have H67 := Lib.hid (show ([obC 1 A ab, obC 2 R T].flatten)[67]? = some (.string (str T)) by
    have h1 := length_obC 1 A ab hA
    rw [List.flatten_cons, List.getElem?_append_right (by omega), h1]
    simp [obC, hR])
  have HAE := Lib.hid hAe
  have HRE := Lib.hid hR
  have HAL := Lib.hid hA
  clear hc HOB hAe hTe hRe hA hR
  go_enter Tryd.func11, Tryd.ntmps11
  go_wp2_with fail
  refine HBD.out.mono ?_
  rintro e w1 ⟨vo, rfl, hro, hb1⟩
  obtain ⟨go, capo, hvo, hcapo, hnews⟩ := hro.front (by simp)
  simp only [List.length_cons, List.length_nil, Nat.reduceAdd] at hvo hcapo
  subst hvo
  have h67 : w1.cell? ⟨go, 67, none⟩ = some (.string (str T)) := hnews 67 _ H67.out
  have hgo : go < w1.heap.size := World.block_lt_of_cell? w1 _ h67
  have HNW := Lib.hid hnews
  have HB1 := Lib.hid (belowThen (belowSelf w _) hb1)
  clear HBD hro hb1 hnews
  go_wp2_with (first
    | (refine wp_store_gen (B := w1.heap.size) (w0 := w1) (belowSelf w1 _) (Nat.le_refl _) (Mem.newAt w1 Tpt (List.replicate 32 (byteV 0) ++ [.int .i64 0]) rfl) (ptC (R, 2)) Tpt (.tmp 1) (.tmp 9) rfl rfl rfl rfl SZP.out HZ.out ONE.out ?_
       intro W2 hm2 hb2 hz2 hk2
       have HM2 := Lib.hid hm2
       have HB2 := Lib.hid hb2
       have h32c : W2.cell? ⟨w1.heap.size, 32, none⟩ = some (.int .i64 2) := (hm2.cell 32).trans HC32.out
       have h67b : W2.cell? ⟨go, 67, none⟩ = some (.string (str T)) := (hb2.cell (p := ⟨go, 67, none⟩) hgo).trans h67
       clear hm2 hb2 hz2 hk2 h67)
    | fail)
  refine (HPA.out _).mono ?_
  rintro e w3 ⟨v3, rfl, hp3, hb3⟩
  obtain ⟨a3, cap3, hv3, hcap3, hc3⟩ := hp3.form
  simp only [List.length_cons, List.length_nil, Nat.reduceAdd] at hv3 hcap3
  obtain ⟨g3, off3, ha3, hlt3, hr3⟩ := hc3 0 (by simp)
  subst ha3
  subst hv3
  have HB3 := Lib.hid hb3
  clear hc3 HPA h32c h67b hb3 hp3
  go_wp2_with fail
-- BEGIN
  obtain ⟨W4, hW4⟩ : ∃ W, W = w3.alloc (.cells #[.int .i64 1, .slice (some ⟨g3, off3, none⟩) 1 cap3] Tnd) := ⟨_, rfl⟩
  have HB4 := Lib.hid (show Below w3.heap.size w3 W4 by rw [hW4]; exact belowSelf w3 _)
  have HS4 := Lib.hid (show AWS w w3.heap.size w1.heap.size g3 off3 cap3 go A R T W4.drew from ⟨by rw [hW4]; exact Mem.new w3 Tnd [.int .i64 1, .slice (some ⟨g3, off3, none⟩) 1 cap3], fun j u hu => ((below_drewN HB4.out 1).cell (p := ⟨g3, off3 + j, none⟩) hlt3).trans (by have := hr3 j u hu; simpa using this), fun j u hu => ((below_drewN (belowThen (belowThen HB2.out HB3.out) HB4.out) 1).cell (p := ⟨go, 34 + j, none⟩) hgo).trans (HNW.out (34 + j) u (by rw [List.flatten_cons, List.getElem?_append_right (by rw [H34.out]; omega), H34.out, show 34 + j - 34 = j from by omega]; simpa using hu)), HM2.out.below (below_drewN (belowThen HB3.out HB4.out) 1) HM2.out.lt, below_drewN (belowThen HB1.out (belowThen (belowThen HB2.out HB3.out) HB4.out)) 1⟩)
  rw [← hW4]
  clear hW4
  have SZA := Lib.hid (sz_id A HAL.out)
  have SZR := Lib.hid (sz_id R HRE.out)
  have heA : ∀ W, (binOp .eql TI (.agg (A.map byteV).toArray) (.agg (A.map byteV).toArray)).run Tryd.prog W = .ok (.bool true) W := fun W => by
    rw [run_eql_bytes (P := Tryd.prog) TI 5 32 Tryd.underlying41 Tryd.underlying5 (by kernel_rfl) A A HAL.out HAL.out W]; simp
  have heR : ∀ W, (binOp .eql TI (.agg (R.map byteV).toArray) (.agg (R.map byteV).toArray)).run Tryd.prog W = .ok (.bool true) W := fun W => by
    rw [run_eql_bytes (P := Tryd.prog) TI 5 32 Tryd.underlying41 Tryd.underlying5 (by kernel_rfl) R R HRE.out HRE.out W]; simp
  refine wp_region_held_drew (S := AWS w w3.heap.size w1.heap.size g3 off3 cap3 go A R T) (by kernel_rfl) HS4.out (fun hHeld => ?_)
  refine wpAnyH_take (i := 0) (oi := { dst := some 32, op := Op.move (Operand.tmp 5), type := 26, pos := "law.go:20", after := #[], guard := none }) (v := .int .i64 0) rfl (by kernel_rfl) (by kernel_rfl) (by kernel_rfl) (fun _ _ _ h => h) (Or.inl ⟨by rfl, ?_⟩) hHeld ?_
  · intro w' hSw
    obtain ⟨z1, -, -, -, -⟩ := hSw
    have y0 : w'.cell? ⟨w3.heap.size, 0, none⟩ = some (.int .i64 1) := z1.cell 0
    have y1 : w'.cell? ⟨w3.heap.size, 1, none⟩ = some (.slice (some ⟨g3, off3, none⟩) 1 cap3) := z1.cell 1
    clear z1
    go_simp
  simp only [Act.put, List.setIfInBounds_toArray, List.set_cons_zero, List.set_cons_succ]
  refine wpAnyH_take (i := 1) (oi := { dst := some 33, op := Op.binOp BinOp.eql 26 (Operand.tmp 32) (Operand.const (Value.int IntKind.i64 0)) 26, type := 4, pos := "law.go:20", after := #[{ on := 0, ground := Ground.data }], guard := none }) (v := .bool true) rfl (by kernel_rfl) (by kernel_rfl) (by kernel_rfl) (fun _ _ _ h => h) (Or.inl ⟨by rfl, ?_⟩) hHeld ?_
  · intro w' hSw
    obtain ⟨z1, -, -, -, -⟩ := hSw
    have y0 : w'.cell? ⟨w3.heap.size, 0, none⟩ = some (.int .i64 1) := z1.cell 0
    have y1 : w'.cell? ⟨w3.heap.size, 1, none⟩ = some (.slice (some ⟨g3, off3, none⟩) 1 cap3) := z1.cell 1
    clear z1
    go_simp
  simp only [Act.put, List.setIfInBounds_toArray, List.set_cons_zero, List.set_cons_succ]
  refine wpAnyH_take (i := 2) (oi := { dst := some 34, op := Op.move (Operand.tmp 33), type := 4, pos := "law.go:20", after := #[{ on := 1, ground := Ground.data }], guard := none }) (v := .bool true) rfl (by kernel_rfl) (by kernel_rfl) (by kernel_rfl) (fun _ _ _ h => h) (Or.inl ⟨by rfl, ?_⟩) hHeld ?_
  · intro w' hSw
    obtain ⟨z1, -, -, -, -⟩ := hSw
    have y0 : w'.cell? ⟨w3.heap.size, 0, none⟩ = some (.int .i64 1) := z1.cell 0
    have y1 : w'.cell? ⟨w3.heap.size, 1, none⟩ = some (.slice (some ⟨g3, off3, none⟩) 1 cap3) := z1.cell 1
    clear z1
    go_simp
  simp only [Act.put, List.setIfInBounds_toArray, List.set_cons_zero, List.set_cons_succ]
  refine wpAnyH_take (i := 3) (oi := { dst := some 35, op := Op.fieldAddr Tnd (Operand.tmp 4) 0, type := 0, pos := "law.go:20", after := #[{ on := 2, ground := Ground.guard }], guard := some (2, true) }) (v := .pointer (some ⟨w3.heap.size, 0, none⟩)) rfl (by kernel_rfl) (by kernel_rfl) (by kernel_rfl) (fun _ _ _ h => h) (Or.inl ⟨by rfl, ?_⟩) hHeld ?_
  · intro w' hSw
    obtain ⟨z1, -, -, -, -⟩ := hSw
    have y0 : w'.cell? ⟨w3.heap.size, 0, none⟩ = some (.int .i64 1) := z1.cell 0
    have y1 : w'.cell? ⟨w3.heap.size, 1, none⟩ = some (.slice (some ⟨g3, off3, none⟩) 1 cap3) := z1.cell 1
    clear z1
    go_simp
  simp only [Act.put, List.setIfInBounds_toArray, List.set_cons_zero, List.set_cons_succ]
  refine wpAnyH_take (i := 4) (oi := { dst := some 36, op := Op.load 3 (Operand.tmp 35), type := 3, pos := "law.go:20", after := #[{ on := 3, ground := Ground.data }, { on := 2, ground := Ground.guard }], guard := some (2, true) }) (v := .int .i64 1) rfl (by kernel_rfl) (by kernel_rfl) (by kernel_rfl) (fun _ _ _ h => h) (Or.inl ⟨by rfl, ?_⟩) hHeld ?_
  · intro w' hSw
    obtain ⟨z1, -, -, -, -⟩ := hSw
    have y0 : w'.cell? ⟨w3.heap.size, 0, none⟩ = some (.int .i64 1) := z1.cell 0
    have y1 : w'.cell? ⟨w3.heap.size, 1, none⟩ = some (.slice (some ⟨g3, off3, none⟩) 1 cap3) := z1.cell 1
    clear z1
    go_simp
  simp only [Act.put, List.setIfInBounds_toArray, List.set_cons_zero, List.set_cons_succ]
  refine wpAnyH_take (i := 5) (oi := { dst := some 37, op := Op.binOp BinOp.eql 3 (Operand.tmp 36) (Operand.const (Value.int IntKind.i64 1)) 3, type := 4, pos := "law.go:20", after := #[{ on := 4, ground := Ground.data }, { on := 2, ground := Ground.guard }], guard := some (2, true) }) (v := .bool true) rfl (by kernel_rfl) (by kernel_rfl) (by kernel_rfl) (fun _ _ _ h => h) (Or.inl ⟨by rfl, ?_⟩) hHeld ?_
  · intro w' hSw
    obtain ⟨z1, -, -, -, -⟩ := hSw
    have y0 : w'.cell? ⟨w3.heap.size, 0, none⟩ = some (.int .i64 1) := z1.cell 0
    have y1 : w'.cell? ⟨w3.heap.size, 1, none⟩ = some (.slice (some ⟨g3, off3, none⟩) 1 cap3) := z1.cell 1
    clear z1
    go_simp
  simp only [Act.put, List.setIfInBounds_toArray, List.set_cons_zero, List.set_cons_succ]
  refine wpAnyH_take (i := 6) (oi := { dst := some 38, op := Op.pick (Operand.tmp 34) (Operand.tmp 37) (Operand.const (Value.bool false)), type := 4, pos := "law.go:20", after := #[{ on := 2, ground := Ground.data }, { on := 5, ground := Ground.data }], guard := none }) (v := .bool true) rfl (by kernel_rfl) (by kernel_rfl) (by kernel_rfl) (fun _ _ _ h => h) (Or.inl ⟨by rfl, ?_⟩) hHeld ?_
  · intro w' hSw
    obtain ⟨z1, -, -, -, -⟩ := hSw
    have y0 : w'.cell? ⟨w3.heap.size, 0, none⟩ = some (.int .i64 1) := z1.cell 0
    have y1 : w'.cell? ⟨w3.heap.size, 1, none⟩ = some (.slice (some ⟨g3, off3, none⟩) 1 cap3) := z1.cell 1
    clear z1
    go_simp
  simp only [Act.put, List.setIfInBounds_toArray, List.set_cons_zero, List.set_cons_succ]
  refine wpAnyH_take (i := 7) (oi := { dst := some 39, op := Op.move (Operand.tmp 38), type := 4, pos := "law.go:20", after := #[{ on := 6, ground := Ground.data }, { on := 2, ground := Ground.chain }], guard := none }) (v := .bool true) rfl (by kernel_rfl) (by kernel_rfl) (by kernel_rfl) (fun _ _ _ h => h) (Or.inl ⟨by rfl, ?_⟩) hHeld ?_
  · intro w' hSw
    obtain ⟨z1, -, -, -, -⟩ := hSw
    have y0 : w'.cell? ⟨w3.heap.size, 0, none⟩ = some (.int .i64 1) := z1.cell 0
    have y1 : w'.cell? ⟨w3.heap.size, 1, none⟩ = some (.slice (some ⟨g3, off3, none⟩) 1 cap3) := z1.cell 1
    clear z1
    go_simp
  simp only [Act.put, List.setIfInBounds_toArray, List.set_cons_zero, List.set_cons_succ]
  refine wpAnyH_take (i := 8) (oi := { dst := some 40, op := Op.fieldAddr Tnd (Operand.tmp 4) 1, type := 0, pos := "law.go:20", after := #[{ on := 7, ground := Ground.guard }], guard := some (7, true) }) (v := .pointer (some ⟨w3.heap.size, 1, none⟩)) rfl (by kernel_rfl) (by kernel_rfl) (by kernel_rfl) (fun _ _ _ h => h) (Or.inl ⟨by rfl, ?_⟩) hHeld ?_
  · intro w' hSw
    obtain ⟨z1, -, -, -, -⟩ := hSw
    have y0 : w'.cell? ⟨w3.heap.size, 0, none⟩ = some (.int .i64 1) := z1.cell 0
    have y1 : w'.cell? ⟨w3.heap.size, 1, none⟩ = some (.slice (some ⟨g3, off3, none⟩) 1 cap3) := z1.cell 1
    clear z1
    go_simp
  simp only [Act.put, List.setIfInBounds_toArray, List.set_cons_zero, List.set_cons_succ]
  refine wpAnyH_take (i := 9) (oi := { dst := some 41, op := Op.load 23 (Operand.tmp 40), type := 23, pos := "law.go:20", after := #[{ on := 8, ground := Ground.data }, { on := 7, ground := Ground.guard }], guard := some (7, true) }) (v := .slice (some ⟨g3, off3, none⟩) 1 cap3) rfl (by kernel_rfl) (by kernel_rfl) (by kernel_rfl) (fun _ _ _ h => h) (Or.inl ⟨by rfl, ?_⟩) hHeld ?_
  · intro w' hSw
    obtain ⟨z1, -, -, -, -⟩ := hSw
    have y0 : w'.cell? ⟨w3.heap.size, 0, none⟩ = some (.int .i64 1) := z1.cell 0
    have y1 : w'.cell? ⟨w3.heap.size, 1, none⟩ = some (.slice (some ⟨g3, off3, none⟩) 1 cap3) := z1.cell 1
    clear z1
    go_simp
  simp only [Act.put, List.setIfInBounds_toArray, List.set_cons_zero, List.set_cons_succ]
  refine wpAnyH_take (i := 10) (oi := { dst := some 42, op := Op.call { callee := Callee.builtin Builtin.len, args := #[Operand.tmp 41], argTypes := #[23] }, type := 3, pos := "law.go:20", after := #[{ on := 9, ground := Ground.data }, { on := 7, ground := Ground.guard }], guard := some (7, true) }) (v := .int .i64 1) rfl (by kernel_rfl) (by kernel_rfl) (by kernel_rfl) (fun _ _ _ h => h) (Or.inl ⟨by rfl, ?_⟩) hHeld ?_
  · intro w' hSw
    obtain ⟨z1, -, -, -, -⟩ := hSw
    have y0 : w'.cell? ⟨w3.heap.size, 0, none⟩ = some (.int .i64 1) := z1.cell 0
    have y1 : w'.cell? ⟨w3.heap.size, 1, none⟩ = some (.slice (some ⟨g3, off3, none⟩) 1 cap3) := z1.cell 1
    clear z1
    go_simp
  simp only [Act.put, List.setIfInBounds_toArray, List.set_cons_zero, List.set_cons_succ]
  refine wpAnyH_take (i := 11) (oi := { dst := some 43, op := Op.binOp BinOp.eql 3 (Operand.tmp 42) (Operand.const (Value.int IntKind.i64 1)) 3, type := 4, pos := "law.go:20", after := #[{ on := 10, ground := Ground.data }, { on := 7, ground := Ground.guard }], guard := some (7, true) }) (v := .bool true) rfl (by kernel_rfl) (by kernel_rfl) (by kernel_rfl) (fun _ _ _ h => h) (Or.inl ⟨by rfl, ?_⟩) hHeld ?_
  · intro w' hSw
    obtain ⟨z1, -, -, -, -⟩ := hSw
    have y0 : w'.cell? ⟨w3.heap.size, 0, none⟩ = some (.int .i64 1) := z1.cell 0
    have y1 : w'.cell? ⟨w3.heap.size, 1, none⟩ = some (.slice (some ⟨g3, off3, none⟩) 1 cap3) := z1.cell 1
    clear z1
    go_simp
  simp only [Act.put, List.setIfInBounds_toArray, List.set_cons_zero, List.set_cons_succ]
  refine wpAnyH_take (i := 12) (oi := { dst := some 44, op := Op.pick (Operand.tmp 39) (Operand.tmp 43) (Operand.const (Value.bool false)), type := 4, pos := "law.go:20", after := #[{ on := 7, ground := Ground.data }, { on := 11, ground := Ground.data }], guard := none }) (v := .bool true) rfl (by kernel_rfl) (by kernel_rfl) (by kernel_rfl) (fun _ _ _ h => h) (Or.inl ⟨by rfl, ?_⟩) hHeld ?_
  · intro w' hSw
    obtain ⟨z1, -, -, -, -⟩ := hSw
    have y0 : w'.cell? ⟨w3.heap.size, 0, none⟩ = some (.int .i64 1) := z1.cell 0
    have y1 : w'.cell? ⟨w3.heap.size, 1, none⟩ = some (.slice (some ⟨g3, off3, none⟩) 1 cap3) := z1.cell 1
    clear z1
    go_simp
  simp only [Act.put, List.setIfInBounds_toArray, List.set_cons_zero, List.set_cons_succ]
  refine wpAnyH_take (i := 13) (oi := { dst := some 45, op := Op.move (Operand.tmp 44), type := 4, pos := "law.go:20", after := #[{ on := 12, ground := Ground.data }, { on := 7, ground := Ground.chain }], guard := none }) (v := .bool true) rfl (by kernel_rfl) (by kernel_rfl) (by kernel_rfl) (fun _ _ _ h => h) (Or.inl ⟨by rfl, ?_⟩) hHeld ?_
  · intro w' hSw
    obtain ⟨z1, -, -, -, -⟩ := hSw
    have y0 : w'.cell? ⟨w3.heap.size, 0, none⟩ = some (.int .i64 1) := z1.cell 0
    have y1 : w'.cell? ⟨w3.heap.size, 1, none⟩ = some (.slice (some ⟨g3, off3, none⟩) 1 cap3) := z1.cell 1
    clear z1
    go_simp
  simp only [Act.put, List.setIfInBounds_toArray, List.set_cons_zero, List.set_cons_succ]
  refine wpAnyH_take (i := 14) (oi := { dst := some 46, op := Op.fieldAddr Tnd (Operand.tmp 4) 1, type := 0, pos := "law.go:20", after := #[{ on := 13, ground := Ground.guard }], guard := some (13, true) }) (v := .pointer (some ⟨w3.heap.size, 1, none⟩)) rfl (by kernel_rfl) (by kernel_rfl) (by kernel_rfl) (fun _ _ _ h => h) (Or.inl ⟨by rfl, ?_⟩) hHeld ?_
  · intro w' hSw
    obtain ⟨z1, -, -, -, -⟩ := hSw
    have y0 : w'.cell? ⟨w3.heap.size, 0, none⟩ = some (.int .i64 1) := z1.cell 0
    have y1 : w'.cell? ⟨w3.heap.size, 1, none⟩ = some (.slice (some ⟨g3, off3, none⟩) 1 cap3) := z1.cell 1
    clear z1
    go_simp
  simp only [Act.put, List.setIfInBounds_toArray, List.set_cons_zero, List.set_cons_succ]
  refine wpAnyH_take (i := 15) (oi := { dst := some 47, op := Op.load 23 (Operand.tmp 46), type := 23, pos := "law.go:20", after := #[{ on := 14, ground := Ground.data }, { on := 13, ground := Ground.guard }], guard := some (13, true) }) (v := .slice (some ⟨g3, off3, none⟩) 1 cap3) rfl (by kernel_rfl) (by kernel_rfl) (by kernel_rfl) (fun _ _ _ h => h) (Or.inl ⟨by rfl, ?_⟩) hHeld ?_
  · intro w' hSw
    obtain ⟨z1, -, -, -, -⟩ := hSw
    have y0 : w'.cell? ⟨w3.heap.size, 0, none⟩ = some (.int .i64 1) := z1.cell 0
    have y1 : w'.cell? ⟨w3.heap.size, 1, none⟩ = some (.slice (some ⟨g3, off3, none⟩) 1 cap3) := z1.cell 1
    clear z1
    go_simp
  simp only [Act.put, List.setIfInBounds_toArray, List.set_cons_zero, List.set_cons_succ]
  refine wpAnyH_take (i := 16) (oi := { dst := some 48, op := Op.indexAddr 23 (Operand.tmp 47) (Operand.const (Value.int IntKind.i64 0)), type := 0, pos := "law.go:20", after := #[{ on := 15, ground := Ground.data }, { on := 13, ground := Ground.guard }], guard := some (13, true) }) (v := .pointer (some ⟨g3, off3, none⟩)) rfl (by kernel_rfl) (by kernel_rfl) (by kernel_rfl) (fun _ _ _ h => h) (Or.inl ⟨by rfl, ?_⟩) hHeld ?_
  · intro w' hSw
    obtain ⟨z1, -, -, -, -⟩ := hSw
    have y0 : w'.cell? ⟨w3.heap.size, 0, none⟩ = some (.int .i64 1) := z1.cell 0
    have y1 : w'.cell? ⟨w3.heap.size, 1, none⟩ = some (.slice (some ⟨g3, off3, none⟩) 1 cap3) := z1.cell 1
    clear z1
    go_simp
  simp only [Act.put, List.setIfInBounds_toArray, List.set_cons_zero, List.set_cons_succ]
  refine wpAnyH_take (i := 17) (oi := { dst := some 49, op := Op.fieldAddr Tpt (Operand.tmp 48) 0, type := 0, pos := "law.go:20", after := #[{ on := 16, ground := Ground.data }, { on := 13, ground := Ground.guard }], guard := some (13, true) }) (v := .pointer (some ⟨g3, off3, none⟩)) rfl (by kernel_rfl) (by kernel_rfl) (by kernel_rfl) (fun _ _ _ h => h) (Or.inl ⟨by rfl, ?_⟩) hHeld ?_
  · intro w' hSw
    obtain ⟨z1, -, -, -, -⟩ := hSw
    have y0 : w'.cell? ⟨w3.heap.size, 0, none⟩ = some (.int .i64 1) := z1.cell 0
    have y1 : w'.cell? ⟨w3.heap.size, 1, none⟩ = some (.slice (some ⟨g3, off3, none⟩) 1 cap3) := z1.cell 1
    clear z1
    go_simp
  simp only [Act.put, List.setIfInBounds_toArray, List.set_cons_zero, List.set_cons_succ]
  refine wpAnyH_take (i := 18) (oi := { dst := some 50, op := Op.load TI (Operand.tmp 49), type := TI, pos := "law.go:20", after := #[{ on := 17, ground := Ground.data }, { on := 13, ground := Ground.guard }], guard := some (13, true) }) (v := _) rfl (by kernel_rfl) (by kernel_rfl) (by kernel_rfl) (fun _ _ _ h => h) (yieldsIf_load_mid (by rfl) TI (.tmp 49) rfl g3 (off3) rfl (A.map byteV) (.array 32 5) (fun w hS => fun j u hu => hS.2.1 j u (by unfold ptC; rw [List.getElem?_append_left (List.getElem?_eq_some_iff.1 hu).1]; exact hu)) Tryd.underlying41 rfl SZA.out) hHeld ?_
  simp only [Act.put, List.setIfInBounds_toArray, List.set_cons_zero, List.set_cons_succ]
  refine wpAnyH_ready (rs := [19]) (by kernel_rfl) (by simp) (AllReadyH.cons rfl (fun K hK => ?_) AllReadyH.nil)
  go_simp
  have HS5 := Lib.hid (AWS.below HS4.out (belowSelf W4.drew (.cells #[tx ab] 9)))
  refine hK.out _ _ HS5.out (fun hH5 => ?_)
  clear hK K
  refine wpAnyH_ready (rs := [20]) (by kernel_rfl) (by simp) (AllReadyH.cons rfl (fun K hK => ?_) AllReadyH.nil)
  go_simp
  refine (HOF.out W4.drew (HC.out.below HS5.out.2.2.2.2)).mono ?_
  rintro e w6 ⟨rfl, hb6⟩
  dsimp only
  have HS6 := Lib.hid (AWS.below HS5.out hb6)
  refine hK.out _ _ HS6.out (fun hH6 => ?_)
  clear hK K hb6 hH5
  refine wpAnyH_take (i := 21) (oi := { dst := some 53, op := Op.binOp BinOp.eql TI (Operand.tmp 50) (Operand.tmp 52) TI, type := 4, pos := "law.go:20", after := #[{ on := 18, ground := Ground.data }, { on := 20, ground := Ground.data }, { on := 13, ground := Ground.guard }], guard := some (13, true) }) (v := .bool true) rfl (by kernel_rfl) (by kernel_rfl) (by kernel_rfl) (fun _ _ _ h => h) (Or.inl ⟨by rfl, ?_⟩) hH6 ?_
  · intro w' hSw
    obtain ⟨z1, -, -, -, -⟩ := hSw
    have y0 : w'.cell? ⟨w3.heap.size, 0, none⟩ = some (.int .i64 1) := z1.cell 0
    have y1 : w'.cell? ⟨w3.heap.size, 1, none⟩ = some (.slice (some ⟨g3, off3, none⟩) 1 cap3) := z1.cell 1
    clear z1
    go_simp
  simp only [Act.put, List.setIfInBounds_toArray, List.set_cons_zero, List.set_cons_succ]
  refine wpAnyH_take (i := 22) (oi := { dst := some 54, op := Op.pick (Operand.tmp 45) (Operand.tmp 53) (Operand.const (Value.bool false)), type := 4, pos := "law.go:20", after := #[{ on := 13, ground := Ground.data }, { on := 21, ground := Ground.data }], guard := none }) (v := .bool true) rfl (by kernel_rfl) (by kernel_rfl) (by kernel_rfl) (fun _ _ _ h => h) (Or.inl ⟨by rfl, ?_⟩) hH6 ?_
  · intro w' hSw
    obtain ⟨z1, -, -, -, -⟩ := hSw
    have y0 : w'.cell? ⟨w3.heap.size, 0, none⟩ = some (.int .i64 1) := z1.cell 0
    have y1 : w'.cell? ⟨w3.heap.size, 1, none⟩ = some (.slice (some ⟨g3, off3, none⟩) 1 cap3) := z1.cell 1
    clear z1
    go_simp
  simp only [Act.put, List.setIfInBounds_toArray, List.set_cons_zero, List.set_cons_succ]
  refine wpAnyH_take (i := 23) (oi := { dst := some 55, op := Op.move (Operand.tmp 54), type := 4, pos := "law.go:20", after := #[{ on := 22, ground := Ground.data }, { on := 20, ground := Ground.chain }], guard := none }) (v := .bool true) rfl (by kernel_rfl) (by kernel_rfl) (by kernel_rfl) (fun _ _ _ h => h) (Or.inl ⟨by rfl, ?_⟩) hH6 ?_
  · intro w' hSw
    obtain ⟨z1, -, -, -, -⟩ := hSw
    have y0 : w'.cell? ⟨w3.heap.size, 0, none⟩ = some (.int .i64 1) := z1.cell 0
    have y1 : w'.cell? ⟨w3.heap.size, 1, none⟩ = some (.slice (some ⟨g3, off3, none⟩) 1 cap3) := z1.cell 1
    clear z1
    go_simp
  simp only [Act.put, List.setIfInBounds_toArray, List.set_cons_zero, List.set_cons_succ]
  refine wpAnyH_take (i := 24) (oi := { dst := some 56, op := Op.move (Operand.tmp 2), type := 44, pos := "law.go:20", after := #[{ on := 23, ground := Ground.guard }], guard := some (23, true) }) (v := .slice (some ⟨go, 0, none⟩) 2 capo) rfl (by kernel_rfl) (by kernel_rfl) (by kernel_rfl) (fun _ _ _ h => h) (Or.inl ⟨by rfl, ?_⟩) hH6 ?_
  · intro w' hSw
    obtain ⟨z1, -, -, -, -⟩ := hSw
    have y0 : w'.cell? ⟨w3.heap.size, 0, none⟩ = some (.int .i64 1) := z1.cell 0
    have y1 : w'.cell? ⟨w3.heap.size, 1, none⟩ = some (.slice (some ⟨g3, off3, none⟩) 1 cap3) := z1.cell 1
    clear z1
    go_simp
  simp only [Act.put, List.setIfInBounds_toArray, List.set_cons_zero, List.set_cons_succ]
  refine wpAnyH_take (i := 25) (oi := { dst := some 57, op := Op.indexAddr 44 (Operand.tmp 56) (Operand.const (Value.int IntKind.i64 1)), type := 0, pos := "law.go:20", after := #[{ on := 24, ground := Ground.data }, { on := 23, ground := Ground.guard }], guard := some (23, true) }) (v := .pointer (some ⟨go, 34, none⟩)) rfl (by kernel_rfl) (by kernel_rfl) (by kernel_rfl) (fun _ _ _ h => h) (Or.inl ⟨by rfl, ?_⟩) hH6 ?_
  · intro w' hSw
    obtain ⟨z1, -, -, -, -⟩ := hSw
    have y0 : w'.cell? ⟨w3.heap.size, 0, none⟩ = some (.int .i64 1) := z1.cell 0
    have y1 : w'.cell? ⟨w3.heap.size, 1, none⟩ = some (.slice (some ⟨g3, off3, none⟩) 1 cap3) := z1.cell 1
    clear z1
    go_simp
  simp only [Act.put, List.setIfInBounds_toArray, List.set_cons_zero, List.set_cons_succ]
  refine wpAnyH_take (i := 26) (oi := { dst := some 58, op := Op.fieldAddr Tob (Operand.tmp 57) 1, type := 0, pos := "law.go:20", after := #[{ on := 25, ground := Ground.data }, { on := 23, ground := Ground.guard }], guard := some (23, true) }) (v := .pointer (some ⟨go, 35, none⟩)) rfl (by kernel_rfl) (by kernel_rfl) (by kernel_rfl) (fun _ _ _ h => h) (Or.inl ⟨by rfl, ?_⟩) hH6 ?_
  · intro w' hSw
    obtain ⟨z1, -, -, -, -⟩ := hSw
    have y0 : w'.cell? ⟨w3.heap.size, 0, none⟩ = some (.int .i64 1) := z1.cell 0
    have y1 : w'.cell? ⟨w3.heap.size, 1, none⟩ = some (.slice (some ⟨g3, off3, none⟩) 1 cap3) := z1.cell 1
    clear z1
    go_simp
  simp only [Act.put, List.setIfInBounds_toArray, List.set_cons_zero, List.set_cons_succ]
  refine wpAnyH_take (i := 27) (oi := { dst := some 59, op := Op.load TI (Operand.tmp 58), type := TI, pos := "law.go:20", after := #[{ on := 26, ground := Ground.data }, { on := 23, ground := Ground.guard }], guard := some (23, true) }) (v := _) rfl (by kernel_rfl) (by kernel_rfl) (by kernel_rfl) (fun _ _ _ h => h) (yieldsIf_load_mid (by rfl) TI (.tmp 58) rfl go (35) rfl (R.map byteV) (.array 32 5) (fun w hS => fun j u hu => by have := hS.2.2.1 (1 + j) u (by unfold obC; rw [Nat.add_comm 1 j, List.getElem?_cons_succ, List.getElem?_append_left (List.getElem?_eq_some_iff.1 hu).1]; exact hu); rw [← Nat.add_assoc] at this; exact this) Tryd.underlying41 rfl SZR.out) hH6 ?_
  simp only [Act.put, List.setIfInBounds_toArray, List.set_cons_zero, List.set_cons_succ]
  refine wpAnyH_take (i := 28) (oi := { dst := some 60, op := Op.fieldAddr Tpt (Operand.tmp 1) 0, type := 0, pos := "law.go:20", after := #[{ on := 23, ground := Ground.guard }], guard := some (23, true) }) (v := .pointer (some ⟨w1.heap.size, 0, none⟩)) rfl (by kernel_rfl) (by kernel_rfl) (by kernel_rfl) (fun _ _ _ h => h) (Or.inl ⟨by rfl, ?_⟩) hH6 ?_
  · intro w' hSw
    obtain ⟨z1, -, -, -, -⟩ := hSw
    have y0 : w'.cell? ⟨w3.heap.size, 0, none⟩ = some (.int .i64 1) := z1.cell 0
    have y1 : w'.cell? ⟨w3.heap.size, 1, none⟩ = some (.slice (some ⟨g3, off3, none⟩) 1 cap3) := z1.cell 1
    clear z1
    go_simp
  simp only [Act.put, List.setIfInBounds_toArray, List.set_cons_zero, List.set_cons_succ]
  refine wpAnyH_take (i := 29) (oi := { dst := some 61, op := Op.load TI (Operand.tmp 60), type := TI, pos := "law.go:20", after := #[{ on := 28, ground := Ground.data }, { on := 23, ground := Ground.guard }], guard := some (23, true) }) (v := _) rfl (by kernel_rfl) (by kernel_rfl) (by kernel_rfl) (fun _ _ _ h => h) (yieldsIf_load_mid (by rfl) TI (.tmp 60) rfl w1.heap.size (0) rfl (R.map byteV) (.array 32 5) (fun w hS => mem_rng hS.2.2.2.1) Tryd.underlying41 rfl SZR.out) hH6 ?_
  simp only [Act.put, List.setIfInBounds_toArray, List.set_cons_zero, List.set_cons_succ]
  refine wpAnyH_take (i := 30) (oi := { dst := some 62, op := Op.binOp BinOp.eql TI (Operand.tmp 59) (Operand.tmp 61) TI, type := 4, pos := "law.go:20", after := #[{ on := 27, ground := Ground.data }, { on := 29, ground := Ground.data }, { on := 23, ground := Ground.guard }], guard := some (23, true) }) (v := .bool true) rfl (by kernel_rfl) (by kernel_rfl) (by kernel_rfl) (fun _ _ _ h => h) (Or.inl ⟨by rfl, ?_⟩) hH6 ?_
  · intro w' hSw
    obtain ⟨z1, -, -, -, -⟩ := hSw
    have y0 : w'.cell? ⟨w3.heap.size, 0, none⟩ = some (.int .i64 1) := z1.cell 0
    have y1 : w'.cell? ⟨w3.heap.size, 1, none⟩ = some (.slice (some ⟨g3, off3, none⟩) 1 cap3) := z1.cell 1
    clear z1
    go_simp
  simp only [Act.put, List.setIfInBounds_toArray, List.set_cons_zero, List.set_cons_succ]
  refine wpAnyH_take (i := 31) (oi := { dst := some 63, op := Op.pick (Operand.tmp 55) (Operand.tmp 62) (Operand.const (Value.bool false)), type := 4, pos := "law.go:20", after := #[{ on := 23, ground := Ground.data }, { on := 30, ground := Ground.data }], guard := none }) (v := .bool true) rfl (by kernel_rfl) (by kernel_rfl) (by kernel_rfl) (fun _ _ _ h => h) (Or.inl ⟨by rfl, ?_⟩) hH6 ?_
  · intro w' hSw
    obtain ⟨z1, -, -, -, -⟩ := hSw
    have y0 : w'.cell? ⟨w3.heap.size, 0, none⟩ = some (.int .i64 1) := z1.cell 0
    have y1 : w'.cell? ⟨w3.heap.size, 1, none⟩ = some (.slice (some ⟨g3, off3, none⟩) 1 cap3) := z1.cell 1
    clear z1
    go_simp
  simp only [Act.put, List.setIfInBounds_toArray, List.set_cons_zero, List.set_cons_succ]
  refine wpAnyH_take (i := 32) (oi := { dst := some 64, op := Op.move (Operand.tmp 63), type := 4, pos := "law.go:20", after := #[{ on := 31, ground := Ground.data }, { on := 23, ground := Ground.chain }], guard := none }) (v := .bool true) rfl (by kernel_rfl) (by kernel_rfl) (by kernel_rfl) (fun _ _ _ h => h) (Or.inl ⟨by rfl, ?_⟩) hH6 ?_
  · intro w' hSw
    obtain ⟨z1, -, -, -, -⟩ := hSw
    have y0 : w'.cell? ⟨w3.heap.size, 0, none⟩ = some (.int .i64 1) := z1.cell 0
    have y1 : w'.cell? ⟨w3.heap.size, 1, none⟩ = some (.slice (some ⟨g3, off3, none⟩) 1 cap3) := z1.cell 1
    clear z1
    go_simp
  simp only [Act.put, List.setIfInBounds_toArray, List.set_cons_zero, List.set_cons_succ]
  refine wpAnyH_ready (rs := [33]) (by kernel_rfl) (by simp) (AllReadyH.cons rfl (fun K hK => ?_) AllReadyH.nil)
  go_simp
  refine (HDN.out _).mono ?_
  rintro e w7 ⟨rfl, rfl⟩
  dsimp only
  refine hK.out _ _ HS6.out (fun hH7 => ?_)
  clear hK K
  refine wpAnyH_take (i := 34) (oi := { dst := some 66, op := Op.binOp BinOp.eql 3 (Operand.tmp 65) (Operand.const (Value.int IntKind.i64 2)) 3, type := 4, pos := "law.go:20", after := #[{ on := 33, ground := Ground.data }, { on := 32, ground := Ground.guard }], guard := some (32, true) }) (v := .bool true) rfl (by kernel_rfl) (by kernel_rfl) (by kernel_rfl) (fun _ _ _ h => h) (Or.inl ⟨by rfl, ?_⟩) hH7 ?_
  · intro w' hSw
    obtain ⟨z1, -, -, -, -⟩ := hSw
    have y0 : w'.cell? ⟨w3.heap.size, 0, none⟩ = some (.int .i64 1) := z1.cell 0
    have y1 : w'.cell? ⟨w3.heap.size, 1, none⟩ = some (.slice (some ⟨g3, off3, none⟩) 1 cap3) := z1.cell 1
    clear z1
    go_simp
  simp only [Act.put, List.setIfInBounds_toArray, List.set_cons_zero, List.set_cons_succ]
  refine wpAnyH_take (i := 35) (oi := { dst := some 67, op := Op.pick (Operand.tmp 64) (Operand.tmp 66) (Operand.const (Value.bool false)), type := 4, pos := "law.go:20", after := #[{ on := 32, ground := Ground.data }, { on := 34, ground := Ground.data }], guard := none }) (v := .bool true) rfl (by kernel_rfl) (by kernel_rfl) (by kernel_rfl) (fun _ _ _ h => h) (Or.inl ⟨by rfl, ?_⟩) hH7 ?_
  · intro w' hSw
    obtain ⟨z1, -, -, -, -⟩ := hSw
    have y0 : w'.cell? ⟨w3.heap.size, 0, none⟩ = some (.int .i64 1) := z1.cell 0
    have y1 : w'.cell? ⟨w3.heap.size, 1, none⟩ = some (.slice (some ⟨g3, off3, none⟩) 1 cap3) := z1.cell 1
    clear z1
    go_simp
  simp only [Act.put, List.setIfInBounds_toArray, List.set_cons_zero, List.set_cons_succ]
  refine wpAnyH_ready (rs := [36]) (by kernel_rfl) (by simp) (AllReadyH.cons rfl (fun K hK => ?_) AllReadyH.nil)
  go_simp
  refine hK.out _ _ HS6.out (fun hH8 => ?_)
  clear hK K
  refine wpAnyH_done (by kernel_rfl) ?_ _
  have HE := Lib.hid HS6.out.2.2.2.2
  clear hHeld hH6 hH7 hH8
  rename_i Kz hKz
  refine hKz _ _ ?_
  go_wp2_with fail
  go_ret
  exact ⟨rfl, HE.out⟩
-- END
end Go.Proofs.YtjdhcanblpifcaaDoor
