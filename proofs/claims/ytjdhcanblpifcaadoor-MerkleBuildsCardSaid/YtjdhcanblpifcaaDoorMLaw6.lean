/-
  MerkleBuilds.
-/
import Derived.Test.YtjdhcanblpifcaaDoorMLaw5
import Derived.Test.YtjdhcanblpifcaaDoorMer10
namespace Go.Proofs.YtjdhcanblpifcaaDoor
open Go.RowKit Crv

set_option maxRecDepth 100000 in
set_option maxHeartbeats 1000000 in
theorem builds_err (v : Value) (ls : List (List UInt8)) (n : Int) (w : World) (hc : Consts w) (hv : Txs w v ls) (h1 : -9223372036854775808 ≤ n) (h2 : n < 9223372036854775808) (h0 : chkC (chunksOf ls (max 0 (min n 12)).toNat) ≠ 0) :
    Calls Tryd.prog 4 #[v, .int .i64 n] w fun e w' => e = .returned (.bool true) ∧ Below w.heap.size w w' := by
  have HC := Lib.hid hc
  have HCH := Lib.hid (chunks_any v ls n w hv h1 h2)
  obtain ⟨av, cv, rfl, -⟩ := hv
  have hcl : (chunksOf ls (max 0 (min n 12)).toNat).length ≤ 1000 := by
    have := length_chunksOf ls (max 0 (min n 12)).toNat
    omega
  obtain ⟨cs, hcs⟩ : ∃ c, c = chunksOf ls (max 0 (min n 12)).toNat := ⟨_, rfl⟩
  rw [← hcs] at HCH hcl h0
  have HBD := Lib.hid (fun (u : Value) (W : World) (hu : Txs W u cs) => build_err u cs W hu hcl h0)
  have HRB := Lib.hid (fun (u : Value) (W : World) (hu : Txs W u cs) => rbuild_any u cs W hu hcl)
  have e1 : rbP cs = [.string (str []), .int .i64 0] := by unfold rbP; rw [if_neg h0]
  have e2 : rbO cs = [] := by unfold rbO; rw [if_neg h0]
  rw [e1, e2, show ([.string (str []), .int .i64 0] : List Value).toArray = #[.string (str []), .int .i64 0] from rfl] at HRB
  have hd : ((chkC cs : Int) != 0) = true := by simpa using h0
  obtain ⟨c, hce⟩ : ∃ c, c = chkC cs := ⟨_, rfl⟩
  rw [← hce] at HBD HRB hd
  have SZP := Lib.hid (show (Tryd.prog.info? Tpt).map (·.size) = some zP.length by kernel_rfl)
  have ONE := Lib.hid (show ∀ u ∈ zP, u.oneCell' = true by
    intro u hu
    rcases List.mem_append.1 hu with h | h
    · rw [List.eq_of_mem_replicate h]; rfl
    · simp only [List.mem_singleton] at h; subst h; rfl)
  obtain ⟨zc, hzc⟩ : ∃ z, z = zP := ⟨_, rfl⟩
  have HZ := Lib.hid (show (List.replicate 32 (byteV 0) ++ [Value.int .i64 0]).length = zc.length by rw [hzc])
  rw [← hzc] at HBD SZP ONE
  clear hc h1 h2 h0 hcs e1 e2 hce hzc
  go_enter Tryd.func4, Tryd.ntmps4
  go_wp2_with fail
  refine HCH.out.mono ?_
  rintro e w1 ⟨vc, rfl, hck⟩
  have HTX := Lib.hid (Txs.of_owns hck.1)
  have HB1 := Lib.hid hck.2
  obtain ⟨ac, cc, hvc, -, -, -⟩ := hck.1.form
  rw [List.length_map] at hvc
  subst hvc
  clear hck HCH
  go_wp2_with fail
  refine (HBD.out _ _ HTX.out).mono ?_
  rintro e w2 ⟨rfl, hb2⟩
  have HB2 := Lib.hid hb2
  clear hb2 HBD
  go_wp2_with (first
    | (refine wp_store_gen (B := w2.heap.size) (w0 := w2) (belowSelf w2 _) (Nat.le_refl _) (Mem.newAt w2 Tpt (List.replicate 32 (byteV 0) ++ [.int .i64 0]) rfl) zc Tpt (.tmp 6) (.tmp 21) rfl rfl rfl rfl SZP.out HZ.out ONE.out ?_
       intro W3 hm3 hb3 hz3 hk3
       have HB3 := Lib.hid hb3
       have HTX3 := Lib.hid (HTX.out.below (belowThen HB2.out hb3))
       clear hm3 hb3 hz3 hk3)
    | fail)
  refine (HRB.out _ _ HTX3.out).mono ?_
  rintro e w4 ⟨vr, rfl, hrr, hb4⟩
  obtain ⟨ar, cr, hvr, hcr, -⟩ := hrr.rd
  rw [List.map_nil, List.length_nil] at hvr hcr
  subst hvr
  have HB4 := Lib.hid (show Below w.heap.size w (w4.alloc (.cells #[.string (str []), .int .i64 0] Trp)) from belowThen (belowThen (belowThen HB1.out HB2.out) (belowThen HB3.out hb4)) (belowSelf _ _))
  have HAW := Lib.hid (awake9_any (w4.alloc (.cells #[.string (str []), .int .i64 0] Trp)) (HC.out.below HB4.out))
  clear hrr hb4 HRB HTX3 HTX hcr
  go_wp2_with fail
  refine HAW.out.mono ?_
  rintro e w5 ⟨rfl, hb5⟩
  have HB5 := Lib.hid (belowThen HB4.out hb5)
  clear hb5 HAW HB4
  go_wp2_with fail
  go_loopw [46] (fun i wx => i = .int .i64 0 ∧ w5 = wx) (fun _ _ => 0)
  case atStart => exact ⟨rfl, rfl⟩
  case round =>
    obtain ⟨rfl, rfl⟩ := hrel
    go_wp2_with fail
-- BEGIN
    refine wp_region_held_drew (S := fun _ => True) (by kernel_rfl) trivial (fun hHeld => ?_)
    refine wpAnyH_take (i := 0) (oi := { dst := some 87, op := Op.move (Operand.tmp 11), type := 3, pos := "law.go:107", after := #[], guard := none }) (v := .int .i64 c) rfl (by kernel_rfl) (by kernel_rfl) (by kernel_rfl) (fun _ _ _ h => h) (Or.inl ⟨by rfl, ?_⟩) hHeld ?_
    · intro w' hSw
      clear hSw
      go_simp
    simp only [Act.put, List.setIfInBounds_toArray, List.set_cons_zero, List.set_cons_succ]
    refine wpAnyH_take (i := 1) (oi := { dst := some 88, op := Op.binOp BinOp.neq 3 (Operand.tmp 87) (Operand.const (Value.int IntKind.i64 0)) 3, type := 4, pos := "law.go:107", after := #[{ on := 0, ground := Ground.data }], guard := none }) (v := .bool true) rfl (by kernel_rfl) (by kernel_rfl) (by kernel_rfl) (fun _ _ _ h => h) (Or.inl ⟨by rfl, ?_⟩) hHeld ?_
    · intro w' hSw
      clear hSw
      go_simp
    simp only [Act.put, List.setIfInBounds_toArray, List.set_cons_zero, List.set_cons_succ]
    refine wpAnyH_take (i := 2) (oi := { dst := some 89, op := Op.move (Operand.tmp 88), type := 4, pos := "law.go:107", after := #[{ on := 1, ground := Ground.data }], guard := none }) (v := .bool true) rfl (by kernel_rfl) (by kernel_rfl) (by kernel_rfl) (fun _ _ _ h => h) (Or.inl ⟨by rfl, ?_⟩) hHeld ?_
    · intro w' hSw
      clear hSw
      go_simp
    simp only [Act.put, List.setIfInBounds_toArray, List.set_cons_zero, List.set_cons_succ]
    refine wpAnyH_take (i := 3) (oi := { dst := some 90, op := Op.fieldAddr 43 (Operand.tmp 6) 0, type := 0, pos := "law.go:107", after := #[{ on := 2, ground := Ground.guard }], guard := some (2, false) }) (v := undef) rfl (by kernel_rfl) (by kernel_rfl) (by kernel_rfl) (fun _ _ _ h => h) (Or.inr ⟨by rfl, rfl⟩) hHeld ?_
    simp only [Act.put, List.setIfInBounds_toArray, List.set_cons_zero, List.set_cons_succ]
    refine wpAnyH_take (i := 4) (oi := { dst := some 91, op := Op.load 41 (Operand.tmp 90), type := 41, pos := "law.go:107", after := #[{ on := 3, ground := Ground.data }, { on := 2, ground := Ground.guard }], guard := some (2, false) }) (v := undef) rfl (by kernel_rfl) (by kernel_rfl) (by kernel_rfl) (fun _ _ _ h => h) (Or.inr ⟨by rfl, rfl⟩) hHeld ?_
    simp only [Act.put, List.setIfInBounds_toArray, List.set_cons_zero, List.set_cons_succ]
    refine wpAnyH_take (i := 6) (oi := { dst := some 93, op := Op.fieldAddr 48 (Operand.tmp 9) 0, type := 0, pos := "law.go:107", after := #[{ on := 2, ground := Ground.guard }], guard := some (2, false) }) (v := undef) rfl (by kernel_rfl) (by kernel_rfl) (by kernel_rfl) (fun _ _ _ h => h) (Or.inr ⟨by rfl, rfl⟩) hHeld ?_
    simp only [Act.put, List.setIfInBounds_toArray, List.set_cons_zero, List.set_cons_succ]
    refine wpAnyH_take (i := 7) (oi := { dst := some 94, op := Op.load 9 (Operand.tmp 93), type := 9, pos := "law.go:107", after := #[{ on := 6, ground := Ground.data }, { on := 2, ground := Ground.guard }], guard := some (2, false) }) (v := undef) rfl (by kernel_rfl) (by kernel_rfl) (by kernel_rfl) (fun _ _ _ h => h) (Or.inr ⟨by rfl, rfl⟩) hHeld ?_
    simp only [Act.put, List.setIfInBounds_toArray, List.set_cons_zero, List.set_cons_succ]
    refine wpAnyH_take (i := 5) (oi := { dst := some 92, op := Op.call { callee := Callee.value (Operand.func 17), args := #[Operand.tmp 91], argTypes := #[41] }, type := 9, pos := "law.go:107", after := #[{ on := 4, ground := Ground.data }, { on := 2, ground := Ground.chain }, { on := 2, ground := Ground.guard }], guard := some (2, false) }) (v := undef) rfl (by kernel_rfl) (by kernel_rfl) (by kernel_rfl) (fun _ _ _ h => h) (Or.inr ⟨by rfl, rfl⟩) hHeld ?_
    simp only [Act.put, List.setIfInBounds_toArray, List.set_cons_zero, List.set_cons_succ]
    refine wpAnyH_take (i := 8) (oi := { dst := some 95, op := Op.binOp BinOp.eql 9 (Operand.tmp 92) (Operand.tmp 94) 9, type := 4, pos := "law.go:107", after := #[{ on := 5, ground := Ground.data }, { on := 7, ground := Ground.data }, { on := 2, ground := Ground.guard }], guard := some (2, false) }) (v := undef) rfl (by kernel_rfl) (by kernel_rfl) (by kernel_rfl) (fun _ _ _ h => h) (Or.inr ⟨by rfl, rfl⟩) hHeld ?_
    simp only [Act.put, List.setIfInBounds_toArray, List.set_cons_zero, List.set_cons_succ]
    refine wpAnyH_take (i := 9) (oi := { dst := some 96, op := Op.move (Operand.tmp 95), type := 4, pos := "law.go:107", after := #[{ on := 8, ground := Ground.data }, { on := 5, ground := Ground.chain }, { on := 2, ground := Ground.guard }], guard := some (2, false) }) (v := undef) rfl (by kernel_rfl) (by kernel_rfl) (by kernel_rfl) (fun _ _ _ h => h) (Or.inr ⟨by rfl, rfl⟩) hHeld ?_
    simp only [Act.put, List.setIfInBounds_toArray, List.set_cons_zero, List.set_cons_succ]
    refine wpAnyH_take (i := 10) (oi := { dst := some 97, op := Op.fieldAddr 43 (Operand.tmp 6) 1, type := 0, pos := "law.go:107", after := #[{ on := 9, ground := Ground.guard }], guard := some (9, true) }) (v := undef) rfl (by kernel_rfl) (by kernel_rfl) (by kernel_rfl) (fun _ _ _ h => h) (Or.inr ⟨by rfl, rfl⟩) hHeld ?_
    simp only [Act.put, List.setIfInBounds_toArray, List.set_cons_zero, List.set_cons_succ]
    refine wpAnyH_take (i := 11) (oi := { dst := some 98, op := Op.load 3 (Operand.tmp 97), type := 3, pos := "law.go:107", after := #[{ on := 10, ground := Ground.data }, { on := 9, ground := Ground.guard }], guard := some (9, true) }) (v := undef) rfl (by kernel_rfl) (by kernel_rfl) (by kernel_rfl) (fun _ _ _ h => h) (Or.inr ⟨by rfl, rfl⟩) hHeld ?_
    simp only [Act.put, List.setIfInBounds_toArray, List.set_cons_zero, List.set_cons_succ]
    refine wpAnyH_take (i := 12) (oi := { dst := some 99, op := Op.fieldAddr 48 (Operand.tmp 9) 1, type := 0, pos := "law.go:107", after := #[{ on := 9, ground := Ground.guard }], guard := some (9, true) }) (v := undef) rfl (by kernel_rfl) (by kernel_rfl) (by kernel_rfl) (fun _ _ _ h => h) (Or.inr ⟨by rfl, rfl⟩) hHeld ?_
    simp only [Act.put, List.setIfInBounds_toArray, List.set_cons_zero, List.set_cons_succ]
    refine wpAnyH_take (i := 13) (oi := { dst := some 100, op := Op.load 3 (Operand.tmp 99), type := 3, pos := "law.go:107", after := #[{ on := 12, ground := Ground.data }, { on := 9, ground := Ground.guard }], guard := some (9, true) }) (v := undef) rfl (by kernel_rfl) (by kernel_rfl) (by kernel_rfl) (fun _ _ _ h => h) (Or.inr ⟨by rfl, rfl⟩) hHeld ?_
    simp only [Act.put, List.setIfInBounds_toArray, List.set_cons_zero, List.set_cons_succ]
    refine wpAnyH_take (i := 14) (oi := { dst := some 101, op := Op.binOp BinOp.eql 3 (Operand.tmp 98) (Operand.tmp 100) 3, type := 4, pos := "law.go:107", after := #[{ on := 11, ground := Ground.data }, { on := 13, ground := Ground.data }, { on := 9, ground := Ground.guard }], guard := some (9, true) }) (v := undef) rfl (by kernel_rfl) (by kernel_rfl) (by kernel_rfl) (fun _ _ _ h => h) (Or.inr ⟨by rfl, rfl⟩) hHeld ?_
    simp only [Act.put, List.setIfInBounds_toArray, List.set_cons_zero, List.set_cons_succ]
    refine wpAnyH_take (i := 15) (oi := { dst := some 102, op := Op.pick (Operand.tmp 96) (Operand.tmp 101) (Operand.const (Value.bool false)), type := 4, pos := "law.go:107", after := #[{ on := 9, ground := Ground.data }, { on := 14, ground := Ground.data }, { on := 2, ground := Ground.guard }], guard := some (2, false) }) (v := undef) rfl (by kernel_rfl) (by kernel_rfl) (by kernel_rfl) (fun _ _ _ h => h) (Or.inr ⟨by rfl, rfl⟩) hHeld ?_
    simp only [Act.put, List.setIfInBounds_toArray, List.set_cons_zero, List.set_cons_succ]
    refine wpAnyH_take (i := 16) (oi := { dst := some 103, op := Op.pick (Operand.tmp 89) (Operand.const (Value.bool true)) (Operand.tmp 102), type := 4, pos := "law.go:107", after := #[{ on := 2, ground := Ground.data }, { on := 15, ground := Ground.data }], guard := none }) (v := .bool true) rfl (by kernel_rfl) (by kernel_rfl) (by kernel_rfl) (fun _ _ _ h => h) (Or.inl ⟨by rfl, ?_⟩) hHeld ?_
    · intro w' hSw
      clear hSw
      go_simp
    simp only [Act.put, List.setIfInBounds_toArray, List.set_cons_zero, List.set_cons_succ]
    refine wpAnyH_ready (rs := [17]) (by kernel_rfl) (by simp) (AllReadyH.cons rfl (fun K hK => ?_) AllReadyH.nil)
    go_simp
    refine hK.out _ _ trivial (fun hH1 => ?_)
    clear hK K
    refine wpAnyH_done (by kernel_rfl) ?_ _
    clear hHeld hH1
    rename_i Kz hKz
    refine hKz _ _ ?_
-- END
    go_wp2_with fail
    go_ret
    exact ⟨rfl, below_drewN HB5.out 1⟩
theorem merkleBuilds_walk (v : Value) (ls : List (List UInt8)) (n : Int) (w : World) (hc : Consts w) (hv : Txs w v ls) (h1 : -9223372036854775808 ≤ n) (h2 : n < 9223372036854775808) :
    Calls Tryd.prog 4 #[v, .int .i64 n] w fun e w' => e = .returned (.bool true) ∧ Below w.heap.size w w' := by
  by_cases h0 : chkC (chunksOf ls (max 0 (min n 12)).toNat) = 0
  · exact builds_ok v ls n w hc hv h1 h2 h0
  · exact builds_err v ls n w hc hv h1 h2 h0
end Go.Proofs.YtjdhcanblpifcaaDoor
