/-
  SectorTorn: the walk.
-/
import Derived.Test.YthnkjgmoofhaoaaSec13
namespace Go.Proofs.Ythnkjgmoofhaoaa
open Go.RowKit Go.Maps Go.Sort Go.Shelf Crv

theorem str_add (a b : List UInt8) : str a ++ str b = str (a ++ b) := by
  show (⟨a.toArray⟩ : ByteArray) ++ ⟨b.toArray⟩ = ⟨(a ++ b).toArray⟩
  rw [ByteArray.mk_append_mk]
theorem loose_zero (b0 : List UInt8) : looseL (looseT (fun _ => none) b0 0) 1 = [0] := rfl
theorem loose_zero_at (b0 : List UInt8) : looseT (fun _ => none) b0 0 0 = some (rowS b0 0 1) := rfl

set_option maxHeartbeats 2000000 in
set_option maxRecDepth 100000 in
theorem sectorTorn_walk (o0 f0 : List UInt8) (n : Int) (w : World) :
    Calls Try.prog 5 #[.string (str o0), .string (str f0), .int .i64 n] w fun e w' => e = .returned (.bool true) ∧ Below w.heap.size w w' := by
  have HAW := Lib.hid awake3_any
  have HC1 := Lib.hid (fun W => cutB o0 64 (by omega) W)
  have HC2 := Lib.hid (fun W => cutB f0 64 (by omega) W)
  rw [show (64 : Int).toNat = 64 from rfl] at HC1 HC2
  obtain ⟨o, ho⟩ : ∃ s, s = o0.take 64 := ⟨_, rfl⟩
  obtain ⟨f, hf⟩ : ∃ s, s = f0.take 64 := ⟨_, rfl⟩
  have hol : o.length ≤ 64 := by rw [ho, List.length_take]; omega
  have hfl : f.length ≤ 64 := by rw [hf, List.length_take]; omega
  rw [← ho] at HC1
  rw [← hf] at HC2
  clear ho hf
  obtain ⟨k, hk⟩ : ∃ k : Nat, min (max n 0) 64 = (k : Int) := ⟨(min (max n 0) 64).toNat, by omega⟩
  have hk64 : k ≤ 64 := by omega
  have HK := Lib.hid hk
  have HKP := Lib.hid (show keptS [n] 0 = k by
    have e : keptS [n] 0 = (min (max n 0) 64).toNat := rfl
    rw [e, hk]; rfl)
  clear hk
  obtain ⟨b0, hb0⟩ : ∃ b, b = List.replicate (64 * 1) (0 : UInt8) := ⟨_, rfl⟩
  have hbl : b0.length = 64 * 1 := by rw [hb0]; simp
  have HPX := Lib.hid (row_put_same hbl (show 0 < 1 by omega) hol)
  have HPY := Lib.hid (row_put_same hbl (show 0 < 1 by omega) hfl)
  have hol2 := length_putS hbl (show 0 < 1 by omega) hol
  rw [hbl] at hol2
  have HPZ := Lib.hid (row_put_same hol2 (show 0 < 1 by omega) hfl)
  have HLX := Lib.hid (length_padS hol)
  have HLY := Lib.hid (length_padS hfl)
  have hz2 := length_putS hol2 (show 0 < 1 by omega) hfl
  rw [hol2] at hz2
  have HPT := Lib.hid (row_tear_same (l := padS o) hz2 (show 0 < 1 by omega) HLX.out hk64)
  rw [HPZ.out] at HPT
  have HDU := Lib.hid ((Du.none 1).loose (bs := putS b0 0 o) isMap_empty (show 0 < 1 by omega) (length_rowS hol2 (show 0 + 1 ≤ 1 by omega)))
  have HCR := Lib.hid (show crTo (putS (putS b0 0 o) 0 f) (looseT (fun _ => none) (putS b0 0 o) 0) (looseL (looseT (fun _ => none) (putS b0 0 o) 0) 1) [n] (looseL (looseT (fun _ => none) (putS b0 0 o) 0) 1).length = tearS (putS (putS b0 0 o) 0 f) 0 k (padS o) by
    rw [loose_zero]
    show tearS _ 0 (keptS [n] 0) ((looseT (fun _ => none) (putS b0 0 o) 0 0).getD []) = _
    rw [HKP.out, loose_zero_at, HPX.out]
    rfl)
  obtain ⟨ba, hba⟩ : ∃ b, b = putS b0 0 o := ⟨_, rfl⟩
  rw [← hba] at HPX HPT HDU HCR
  obtain ⟨bb, hbb⟩ : ∃ b, b = putS b0 0 f := ⟨_, rfl⟩
  rw [← hbb] at HPY
  obtain ⟨bc, hbc⟩ : ∃ b, b = putS ba 0 f := ⟨_, rfl⟩
  rw [← hbc] at HPT HCR
  obtain ⟨T, hT⟩ : ∃ T, T = looseT (fun _ => none) ba 0 := ⟨_, rfl⟩
  rw [← hT] at HDU HCR
  obtain ⟨x, hx⟩ : ∃ x, x = padS o := ⟨_, rfl⟩
  obtain ⟨y, hy⟩ : ∃ x, x = padS f := ⟨_, rfl⟩
  rw [← hx] at HPX HPT HCR HLX
  rw [← hy] at HPY HPT HLY
  have EA := Lib.hid hba
  have EB := Lib.hid hbb
  have EC := Lib.hid hbc
  have hxl : x.length = 64 := HLX.out
  have hyl : y.length = 64 := HLY.out
  clear hba hbb hbc hT hx hy hol2 hz2 HPZ HLX HLY HKP hbl
  go_enter Try.func5, Try.ntmps5
  go_wp2_with fail
  refine (HC1.out _).mono ?_
  rintro e w1 ⟨rfl, rfl⟩
  go_wp2_with fail
  refine (HC2.out _).mono ?_
  rintro e w1 ⟨rfl, rfl⟩
  go_wp2_with fail
  refine (HAW.out _).mono ?_
  rintro e w1 ⟨rfl, hb1⟩
  have HN := Lib.hid (fun W => new_any 1 (by omega) W)
  simp only [← hb0] at HN
  clear hb0 HC1 HC2 HAW
  go_wp2_with fail
  refine (HN.out _).mono ?_
  rintro e w2 ⟨fa, ca, ma, da, rfl, hda, hb2, k1, k2, k3, k4⟩
  have HB2 := Lib.hid (belowThen hb1 hb2)
  have hb1s := hb1.size
  have HGA := Lib.hid (three_ge (Nat.le_trans hb1s k1) (Nat.le_trans hb1s k2) (Nat.le_trans hb1s k3))
  have HDA := Lib.hid hda
  clear hb1 hb2 hda k1 k2 k3 k4 hb1s
  go_wp2_with fail
  refine (HN.out _).mono ?_
  rintro e w3 ⟨fb, cb, mb, db, rfl, hdb, hb3, k1, k2, k3, k4⟩
  have hb2s := HB2.out.size
  have HGB := Lib.hid (three_ge (Nat.le_trans hb2s k1) (Nat.le_trans hb2s k2) (Nat.le_trans hb2s k3))
  have HB3 := Lib.hid (belowThen HB2.out hb3)
  have HAB := Lib.hid (show (da ∉ [fb, cb, mb] ∧ fa ∉ [fb, cb, mb] ∧ ca ∉ [fb, cb, mb] ∧ ma ∉ [fb, cb, mb]) ∧ (db ∉ [fa, ca, ma] ∧ fb ∉ [fa, ca, ma] ∧ cb ∉ [fa, ca, ma] ∧ mb ∉ [fa, ca, ma]) by
    have h1 := HDA.out.d.lt
    have h2 := HDA.out.f.lt
    have h3 := HDA.out.c.lt
    have h4 := HDA.out.m.lt
    simp only [List.mem_cons, List.not_mem_nil, or_false, not_or]
    omega)
  have HDA3 := Lib.hid (HDA.out.below hb3)
  have HDB := Lib.hid hdb
  clear HN HDA hdb hb3 k1 k2 k3 k4 HB2 hb2s
  have HW := Lib.hid (write_one 0 (.slice (some ⟨w3.heap.size, 0, none⟩) 1 1) o (Txs.new (w := w3) (t := 9) [o] 1) (by omega) (HDA3.out.below (belowSelf w3 _)) (by omega) hol rfl)
  rw [← EA.out] at HW
  have HDB4 := Lib.hid (HDB.out.below (belowSelf w3 (.cells #[tx o] 9)))
  have HB4 := Lib.hid (belowThen HB3.out (belowSelf w3 (.cells #[tx o] 9)))
  clear HDA3 HDB HB3
  go_wp2_with fail
  refine HW.out.mono ?_
  rintro e w4 ⟨rfl, hda, hon⟩
  have HDB := Lib.hid (HDB4.out.only hon HAB.out.2.1 HAB.out.2.2.1 HAB.out.2.2.2.1 HAB.out.2.2.2.2)
  have HB5 := Lib.hid (Only.belowW HB4.out hon HGA.out)
  have HS := Lib.hid (sync_ok hda rfl)
  clear HW HDB4 HB4 hda hon
  go_wp2_with fail
  refine HS.out.mono ?_
  rintro e w5 ⟨rfl, hda, hon, -⟩
  have HDA := Lib.hid (hda.below (belowSelf w5 (.cells #[tx f] 9)))
  have HDB6 := Lib.hid ((HDB.out.only hon HAB.out.2.1 HAB.out.2.2.1 HAB.out.2.2.2.1 HAB.out.2.2.2.2).below (belowSelf w5 (.cells #[tx f] 9)))
  have HB6 := Lib.hid (belowThen (Only.belowW HB5.out hon HGA.out) (belowSelf w5 (.cells #[tx f] 9)))
  have HW := Lib.hid (write_one 0 (.slice (some ⟨w5.heap.size, 0, none⟩) 1 1) f (Txs.new (w := w5) (t := 9) [f] 1) (by omega) HDB6.out (by omega) hfl rfl)
  rw [← EB.out] at HW
  clear HS HDB HB5 hda hon HDB6
  go_wp2_with fail
  refine HW.out.mono ?_
  rintro e w6 ⟨rfl, hdb, hon⟩
  have HDA6 := Lib.hid (HDA.out.only hon HAB.out.1.1 HAB.out.1.2.1 HAB.out.1.2.2.1 HAB.out.1.2.2.2)
  have HB7 := Lib.hid (Only.belowW HB6.out hon HGB.out)
  have HDB := Lib.hid hdb
  have HR := Lib.hid (read_ok 0 1 HDA6.out (by omega) rfl)
  rw [HPX.out] at HR
  clear HW HDA HB6 hdb hon
  go_wp2_with fail
  refine HR.out.mono ?_
  rintro e w7 ⟨rfl, hda, hon, -⟩
  have HDB7 := Lib.hid (HDB.out.only hon HAB.out.2.1 HAB.out.2.2.1 HAB.out.2.2.2.1 HAB.out.2.2.2.2)
  have HB8 := Lib.hid (Only.belowW HB7.out hon HGA.out)
  have HDA := Lib.hid hda
  have HR := Lib.hid (read_ok 0 1 HDB7.out (by omega) rfl)
  rw [HPY.out] at HR
  clear HDB HB7 hda hon HDA6
  go_wp2_with fail
  refine HR.out.mono ?_
  rintro e w8 ⟨rfl, -, hon, -⟩
  have HDA8 := Lib.hid ((HDA.out.only hon HAB.out.1.1 HAB.out.1.2.1 HAB.out.1.2.2.1 HAB.out.1.2.2.2).below (belowSelf w8 (.cells #[tx f] 9)))
  have HB9 := Lib.hid (belowThen (Only.belowW HB8.out hon HGB.out) (belowSelf w8 (.cells #[tx f] 9)))
  have HW := Lib.hid (write_one 0 (.slice (some ⟨w8.heap.size, 0, none⟩) 1 1) f (Txs.new (w := w8) (t := 9) [f] 1) (by omega) HDA8.out (by omega) hfl rfl)
  rw [← EC.out] at HW
  clear HR HDA HDB7 HB8 hon HDA8
  go_wp2_with fail
  refine HW.out.mono ?_
  rintro e w9 ⟨rfl, hda, hon⟩
  have HB10 := Lib.hid (belowThen (Only.belowW HB9.out hon HGA.out) (belowSelf w9 (.cells #[.int .i64 n] TN)))
  have hlt1 := hda.f.lt
  have hlt2 := hda.c.lt
  have hlt3 := hda.m.lt
  have HC := Lib.hid (crash_any (.slice (some ⟨w9.heap.size, 0, none⟩) 1 1) [n] T (Zs.new (w := w9) (t := TN) [n] 1) (fun g hg => by
    injection hg with hg
    subst hg
    simp only [List.mem_cons, List.not_mem_nil, or_false, not_or]
    exact ⟨by omega, by omega, by omega⟩) (by simp) (by omega) (hda.below (belowSelf w9 _)) HDU.out)
  rw [HCR.out] at HC
  clear HW HB9 hda hon hlt1 hlt2 hlt3
  go_wp2_with fail
  refine HC.out.mono ?_
  rintro e w10 ⟨rfl, hda, hon⟩
  have HB11 := Lib.hid (Only.belowW HB10.out hon HGA.out)
  have HR := Lib.hid (read_ok 0 1 hda (by omega) rfl)
  rw [HPT.out] at HR
  clear HC HB10 hda hon
  go_wp2_with fail
  refine HR.out.mono ?_
  rintro e w11 ⟨rfl, -, hon, -⟩
  have HB12 := Lib.hid (Only.belowW HB11.out hon HGA.out)
  clear HR HB11 hon
  go_wp2_with (first
    | (refine wp_max0 (c := n) (d := 0) (.tmp 57) (.const (.int .i64 0)) rfl rfl rfl rfl ?_)
    | (refine wp_min0 (c := max n 0) (d := 64) (.tmp 58) (.const (.int .i64 64)) HK.out rfl rfl rfl rfl ?_)
    | fail)
  have hs1 := fun W => slice_str_to (P := Try.prog) Try.underlying9 y .i64 k (by omega) W
  have hs2 := fun W => slice_str_from (P := Try.prog) Try.underlying9 x .i64 k (by omega) W
  refine wp_region_held_drew (S := fun _ => True) (by kernel_rfl) trivial (fun hT0 => ?_)
  clear hT0
  refine wpAnyH_take (i := 0) (oi := { dst := some 60, op := Op.move (Operand.tmp 14), type := 42, pos := "law.go:173", after := #[], guard := none }) (v := .int .i64 0) rfl (by kernel_rfl) (by kernel_rfl) (by kernel_rfl) (fun _ _ _ h => h) (Or.inl ⟨by rfl, ?_⟩) trivial ?_
  · intro w' hSw
    go_simp
  simp only [Act.put, List.setIfInBounds_toArray, List.set_cons_zero, List.set_cons_succ]
  refine wpAnyH_take (i := 1) (oi := { dst := some 61, op := Op.binOp BinOp.eql 42 (Operand.tmp 60) (Operand.const (Value.int IntKind.i64 0)) 42, type := 4, pos := "law.go:173", after := #[{ on := 0, ground := Ground.data }], guard := none }) (v := .bool true) rfl (by kernel_rfl) (by kernel_rfl) (by kernel_rfl) (fun _ _ _ h => h) (Or.inl ⟨by rfl, ?_⟩) trivial ?_
  · intro w' hSw
    go_simp
  simp only [Act.put, List.setIfInBounds_toArray, List.set_cons_zero, List.set_cons_succ]
  refine wpAnyH_take (i := 2) (oi := { dst := some 62, op := Op.move (Operand.tmp 61), type := 4, pos := "law.go:173", after := #[{ on := 1, ground := Ground.data }], guard := none }) (v := .bool true) rfl (by kernel_rfl) (by kernel_rfl) (by kernel_rfl) (fun _ _ _ h => h) (Or.inl ⟨by rfl, ?_⟩) trivial ?_
  · intro w' hSw
    go_simp
  simp only [Act.put, List.setIfInBounds_toArray, List.set_cons_zero, List.set_cons_succ]
  refine wpAnyH_take (i := 3) (oi := { dst := some 63, op := Op.move (Operand.tmp 13), type := 9, pos := "law.go:173", after := #[{ on := 2, ground := Ground.guard }], guard := some (2, true) }) (v := .string (str (y.take k ++ x.drop k))) rfl (by kernel_rfl) (by kernel_rfl) (by kernel_rfl) (fun _ _ _ h => h) (Or.inl ⟨by rfl, ?_⟩) trivial ?_
  · intro w' hSw
    go_simp
  simp only [Act.put, List.setIfInBounds_toArray, List.set_cons_zero, List.set_cons_succ]
  refine wpAnyH_take (i := 4) (oi := { dst := some 64, op := Op.move (Operand.tmp 11), type := 9, pos := "law.go:173", after := #[{ on := 2, ground := Ground.guard }], guard := some (2, true) }) (v := .string (str y)) rfl (by kernel_rfl) (by kernel_rfl) (by kernel_rfl) (fun _ _ _ h => h) (Or.inl ⟨by rfl, ?_⟩) trivial ?_
  · intro w' hSw
    go_simp
  simp only [Act.put, List.setIfInBounds_toArray, List.set_cons_zero, List.set_cons_succ]
  refine wpAnyH_take (i := 5) (oi := { dst := some 65, op := Op.move (Operand.tmp 15), type := 3, pos := "law.go:173", after := #[{ on := 2, ground := Ground.guard }], guard := some (2, true) }) (v := .int .i64 (k : Int)) rfl (by kernel_rfl) (by kernel_rfl) (by kernel_rfl) (fun _ _ _ h => h) (Or.inl ⟨by rfl, ?_⟩) trivial ?_
  · intro w' hSw
    go_simp
  simp only [Act.put, List.setIfInBounds_toArray, List.set_cons_zero, List.set_cons_succ]
  refine wpAnyH_take (i := 6) (oi := { dst := some 66, op := Op.slice 9 (Operand.tmp 64) none (some (Operand.tmp 65)) none, type := 9, pos := "law.go:173", after := #[{ on := 4, ground := Ground.data }, { on := 5, ground := Ground.data }, { on := 2, ground := Ground.guard }], guard := some (2, true) }) (v := .string (str (y.take k))) rfl (by kernel_rfl) (by kernel_rfl) (by kernel_rfl) (fun _ _ _ h => h) (Or.inl ⟨by rfl, ?_⟩) trivial ?_
  · intro w' hSw
    go_simp
  simp only [Act.put, List.setIfInBounds_toArray, List.set_cons_zero, List.set_cons_succ]
  refine wpAnyH_take (i := 7) (oi := { dst := some 67, op := Op.move (Operand.tmp 9), type := 9, pos := "law.go:173", after := #[{ on := 2, ground := Ground.guard }], guard := some (2, true) }) (v := .string (str x)) rfl (by kernel_rfl) (by kernel_rfl) (by kernel_rfl) (fun _ _ _ h => h) (Or.inl ⟨by rfl, ?_⟩) trivial ?_
  · intro w' hSw
    go_simp
  simp only [Act.put, List.setIfInBounds_toArray, List.set_cons_zero, List.set_cons_succ]
  refine wpAnyH_take (i := 8) (oi := { dst := some 68, op := Op.move (Operand.tmp 15), type := 3, pos := "law.go:173", after := #[{ on := 2, ground := Ground.guard }], guard := some (2, true) }) (v := .int .i64 (k : Int)) rfl (by kernel_rfl) (by kernel_rfl) (by kernel_rfl) (fun _ _ _ h => h) (Or.inl ⟨by rfl, ?_⟩) trivial ?_
  · intro w' hSw
    go_simp
  simp only [Act.put, List.setIfInBounds_toArray, List.set_cons_zero, List.set_cons_succ]
  refine wpAnyH_take (i := 9) (oi := { dst := some 69, op := Op.slice 9 (Operand.tmp 67) (some (Operand.tmp 68)) none none, type := 9, pos := "law.go:173", after := #[{ on := 7, ground := Ground.data }, { on := 8, ground := Ground.data }, { on := 2, ground := Ground.guard }], guard := some (2, true) }) (v := .string (str (x.drop k))) rfl (by kernel_rfl) (by kernel_rfl) (by kernel_rfl) (fun _ _ _ h => h) (Or.inl ⟨by rfl, ?_⟩) trivial ?_
  · intro w' hSw
    go_simp
  simp only [Act.put, List.setIfInBounds_toArray, List.set_cons_zero, List.set_cons_succ]
  refine wpAnyH_take (i := 10) (oi := { dst := some 70, op := Op.binOp BinOp.add 9 (Operand.tmp 66) (Operand.tmp 69) 9, type := 9, pos := "law.go:173", after := #[{ on := 6, ground := Ground.data }, { on := 9, ground := Ground.data }, { on := 2, ground := Ground.guard }], guard := some (2, true) }) (v := .string (str (y.take k ++ x.drop k))) rfl (by kernel_rfl) (by kernel_rfl) (by kernel_rfl) (fun _ _ _ h => h) (Or.inl ⟨by rfl, ?_⟩) trivial ?_
  · intro w' hSw
    go_simp
    exact str_add _ _
  simp only [Act.put, List.setIfInBounds_toArray, List.set_cons_zero, List.set_cons_succ]
  refine wpAnyH_take (i := 11) (oi := { dst := some 71, op := Op.binOp BinOp.eql 9 (Operand.tmp 63) (Operand.tmp 70) 9, type := 4, pos := "law.go:173", after := #[{ on := 3, ground := Ground.data }, { on := 10, ground := Ground.data }, { on := 2, ground := Ground.guard }], guard := some (2, true) }) (v := .bool true) rfl (by kernel_rfl) (by kernel_rfl) (by kernel_rfl) (fun _ _ _ h => h) (Or.inl ⟨by rfl, ?_⟩) trivial ?_
  · intro w' hSw
    go_simp
  simp only [Act.put, List.setIfInBounds_toArray, List.set_cons_zero, List.set_cons_succ]
  refine wpAnyH_take (i := 12) (oi := { dst := some 72, op := Op.pick (Operand.tmp 62) (Operand.tmp 71) (Operand.const (Value.bool false)), type := 4, pos := "law.go:173", after := #[{ on := 2, ground := Ground.data }, { on := 11, ground := Ground.data }], guard := none }) (v := .bool true) rfl (by kernel_rfl) (by kernel_rfl) (by kernel_rfl) (fun _ _ _ h => h) (Or.inl ⟨by rfl, ?_⟩) trivial ?_
  · intro w' hSw
    go_simp
  simp only [Act.put, List.setIfInBounds_toArray, List.set_cons_zero, List.set_cons_succ]
  refine wpAnyH_ready (rs := [13]) (by kernel_rfl) (by simp) (AllReadyH.cons rfl (fun K hK => ?_) AllReadyH.nil)
  go_simp
  refine hK.out _ _ trivial (fun hT1 => ?_)
  clear hK K hT1
  refine wpAnyH_done (by kernel_rfl) ?_ _
  rename_i K hK
  refine hK _ _ ?_
  go_wp2
  go_ret
  exact ⟨rfl, below_drewN HB12.out 1⟩
end Go.Proofs.Ythnkjgmoofhaoaa
