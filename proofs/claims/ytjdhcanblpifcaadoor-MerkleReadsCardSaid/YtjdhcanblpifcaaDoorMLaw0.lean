/-
  The laws of layer 9: is.
-/
import Derived.Test.YtjdhcanblpifcaaDoorMer5
namespace Go.Proofs.YtjdhcanblpifcaaDoor
open Go.RowKit Crv

abbrev Tsp9 : TypeId := 23
def ISW (N b6 g off : Nat) (lv : Int) (v : Value) (p : Pt) (W : World) : Prop := Mem W N Tnd [.int .i64 lv, v] ∧ W.rangeAt g off (ptC p) ∧ W.cell? ⟨b6, 0, none⟩ = some (.string (str p.1)) ∧ W.cell? ⟨b6, 1, none⟩ = some (.int .i64 p.2)
theorem ISW.below {N b6 g off : Nat} {lv : Int} {v : Value} {p : Pt} {W W' : World} (h : ISW N b6 g off lv v p W) (hb : Below W.heap.size W W') : ISW N b6 g off lv v p W' :=
  ⟨h.1.below hb h.1.lt, fun j u hu => (hb.cell (p := ⟨g, off + j, none⟩) (World.block_lt_of_cell? W _ (h.2.1 j u hu))).trans (h.2.1 j u hu), (hb.cell (p := ⟨b6, 0, none⟩) (World.block_lt_of_cell? W _ h.2.2.1)).trans h.2.2.1, (hb.cell (p := ⟨b6, 1, none⟩) (World.block_lt_of_cell? W _ h.2.2.2)).trans h.2.2.2⟩
set_option maxRecDepth 100000 in
set_option maxHeartbeats 400000 in
theorem is9_any (lv : Int) (v v2 : Value) (ps : List Pt) (w : World) (hP : Pts w v ps) (hR : RPts w v2 ps) (hn : ps.length ≤ 1000000) :
    Calls Tryd.prog 12 #[.agg #[.int .i64 lv, v], .agg #[.int .i64 lv, v2]] w fun e w' => e = .returned (.bool true) ∧ Below w.heap.size w w' := by
  have HP := Lib.hid hP
  have HR := Lib.hid hR
  obtain ⟨a, cap, rfl, hcap, -⟩ := hP.form
  obtain ⟨a2, cap2, rfl, hcap2, -⟩ := hR.form
  clear hP hR
  obtain ⟨W0, hW0⟩ : ∃ W, W = (w.alloc (.cells #[.int .i64 lv, .slice a ps.length cap] Tnd)).alloc (.cells #[.int .i64 lv, .slice a2 ps.length cap2] Trn) := ⟨_, rfl⟩
  have HB0 := Lib.hid (show Below w.heap.size w W0 by rw [hW0]; exact (belowSelf w _).alloc (by simp) _)
  have HN0 := Lib.hid (show Mem W0 w.heap.size Tnd [.int .i64 lv, .slice a ps.length cap] by rw [hW0]; exact (Mem.new w _ _).alloc _)
  have hs0 : w.heap.size < W0.heap.size := HN0.out.lt
  go_enter Tryd.func12, Tryd.ntmps12
  go_wp2_with fail
  rw [← hW0]
  clear hW0
  go_loopw [24] (fun i wr => ∃ k : Nat, k ≤ ps.length ∧ i = .int .i64 k ∧ Below W0.heap.size W0 wr) (fun i _ => ps.length - (intOf i).toNat)
  case atStart => exact ⟨0, by omega, rfl, Below.refl _ _⟩
  case round =>
    obtain ⟨k, hk, rfl, hb⟩ := hrel
    by_cases hlt : k < ps.length
    · obtain ⟨a', cap', hv', -, hc'⟩ := (HP.out.below (belowThen HB0.out hb)).form
      injection hv' with h1 h2 h3
      obtain ⟨g, off, ha, hgl, hrng⟩ := hc' k hlt
      rw [← h1] at ha
      subst ha
      obtain ⟨a2', cap2', hv2', -, hc2'⟩ := (HR.out.below (belowThen HB0.out hb)).form
      injection hv2' with h4 h5 h6
      obtain ⟨g2, off2, ha2, hgl2, hx0, hx1⟩ := hc2' k hlt
      rw [← h4] at ha2
      subst ha2
      obtain ⟨p, hp⟩ : ∃ p, p = ps[k] := ⟨_, rfl⟩
      have hp32 := HP.out.1 p (by rw [hp]; exact List.getElem_mem hlt)
      rw [← hp] at hrng hx0 hx1
      have HRNG := Lib.hid hrng
      have HBY := Lib.hid (fun W => bytes_any p.1 W hp32)
      have SZI := Lib.hid (sz_id p.1 hp32)
      have HC32 := Lib.hid (show (ptC p)[32]? = some (.int .i64 p.2) by simp [ptC, hp32])
      have HNR := Lib.hid (HN0.out.below hb hs0)
      have hN1 : wr.cell? ⟨w.heap.size, 1, none⟩ = some (.slice (some ⟨g, off, none⟩) ps.length cap) := HNR.out.cell 1
      clear hp h1 h2 h3 h4 h5 h6 hc' hc2' hrng hp32
      have hdk : decide (k < ps.length) = true := by simpa using hlt
      have hki : (k : Int) < (ps.length : Int) := by omega
      go_wp2_with fail
-- BEGIN
      obtain ⟨W6, hW6⟩ : ∃ W, W = wr.alloc (.cells #[.string (str p.1), .int .i64 p.2] Trp) := ⟨_, rfl⟩
      have HB6 := Lib.hid (show Below wr.heap.size wr W6 by rw [hW6]; exact belowSelf wr _)
      have HS6 := Lib.hid (show ISW w.heap.size wr.heap.size g (off + k * 33) lv (.slice (some ⟨g, off, none⟩) ps.length cap) p W6.drew from ⟨HNR.out.below (below_drewN HB6.out 1) HNR.out.lt, fun j u hu => ((below_drewN HB6.out 1).cell (p := ⟨g, off + k * 33 + j, none⟩) hgl).trans (HRNG.out j u hu), by rw [hW6]; exact (Mem.new wr Trp [.string (str p.1), .int .i64 p.2]).cell 0, by rw [hW6]; exact (Mem.new wr Trp [.string (str p.1), .int .i64 p.2]).cell 1⟩)
      rw [← hW6]
      clear hW6 hx0 hx1 hN1
      refine wp_region_held_drew (S := ISW w.heap.size wr.heap.size g (off + k * 33) lv (.slice (some ⟨g, off, none⟩) ps.length cap) p) (by kernel_rfl) HS6.out (fun hHeld => ?_)
      refine wpAnyH_take (i := 0) (oi := { dst := some 29, op := Op.fieldAddr Tnd (Operand.tmp 2) 1, type := 0, pos := "law.go:46", after := #[], guard := none }) (v := .pointer (some ⟨w.heap.size, 1, none⟩)) rfl (by kernel_rfl) (by kernel_rfl) (by kernel_rfl) (fun _ _ _ h => h) (Or.inl ⟨by rfl, ?_⟩) hHeld ?_
      · intro w' hSw
        obtain ⟨z1, z2, z3, z4⟩ := hSw
        have y1 : w'.cell? ⟨w.heap.size, 1, none⟩ = some (.slice (some ⟨g, off, none⟩) ps.length cap) := z1.cell 1
        have y2 : w'.cell? ⟨g, off + k * 33 + 32, none⟩ = some (.int .i64 p.2) := z2 32 _ HC32.out
        clear z1 z2
        go_simp
      simp only [Act.put, List.setIfInBounds_toArray, List.set_cons_zero, List.set_cons_succ]
      refine wpAnyH_take (i := 1) (oi := { dst := some 30, op := Op.load Tsp9 (Operand.tmp 29), type := Tsp9, pos := "law.go:46", after := #[{ on := 0, ground := Ground.data }], guard := none }) (v := .slice (some ⟨g, off, none⟩) ps.length cap) rfl (by kernel_rfl) (by kernel_rfl) (by kernel_rfl) (fun _ _ _ h => h) (Or.inl ⟨by rfl, ?_⟩) hHeld ?_
      · intro w' hSw
        obtain ⟨z1, z2, z3, z4⟩ := hSw
        have y1 : w'.cell? ⟨w.heap.size, 1, none⟩ = some (.slice (some ⟨g, off, none⟩) ps.length cap) := z1.cell 1
        have y2 : w'.cell? ⟨g, off + k * 33 + 32, none⟩ = some (.int .i64 p.2) := z2 32 _ HC32.out
        clear z1 z2
        go_simp
      simp only [Act.put, List.setIfInBounds_toArray, List.set_cons_zero, List.set_cons_succ]
      refine wpAnyH_take (i := 2) (oi := { dst := some 31, op := Op.move (Operand.tmp 5), type := 3, pos := "law.go:46", after := #[], guard := none }) (v := .int .i64 (k : Int)) rfl (by kernel_rfl) (by kernel_rfl) (by kernel_rfl) (fun _ _ _ h => h) (Or.inl ⟨by rfl, ?_⟩) hHeld ?_
      · intro w' hSw
        obtain ⟨z1, z2, z3, z4⟩ := hSw
        have y1 : w'.cell? ⟨w.heap.size, 1, none⟩ = some (.slice (some ⟨g, off, none⟩) ps.length cap) := z1.cell 1
        have y2 : w'.cell? ⟨g, off + k * 33 + 32, none⟩ = some (.int .i64 p.2) := z2 32 _ HC32.out
        clear z1 z2
        go_simp
      simp only [Act.put, List.setIfInBounds_toArray, List.set_cons_zero, List.set_cons_succ]
      refine wpAnyH_take (i := 3) (oi := { dst := some 32, op := Op.indexAddr Tsp9 (Operand.tmp 30) (Operand.tmp 31), type := 0, pos := "law.go:46", after := #[{ on := 1, ground := Ground.data }, { on := 2, ground := Ground.data }], guard := none }) (v := .pointer (some ⟨g, off + k * 33, none⟩)) rfl (by kernel_rfl) (by kernel_rfl) (by kernel_rfl) (fun _ _ _ h => h) (Or.inl ⟨by rfl, ?_⟩) hHeld ?_
      · intro w' hSw
        obtain ⟨z1, z2, z3, z4⟩ := hSw
        have y1 : w'.cell? ⟨w.heap.size, 1, none⟩ = some (.slice (some ⟨g, off, none⟩) ps.length cap) := z1.cell 1
        have y2 : w'.cell? ⟨g, off + k * 33 + 32, none⟩ = some (.int .i64 p.2) := z2 32 _ HC32.out
        clear z1 z2
        go_simp
      simp only [Act.put, List.setIfInBounds_toArray, List.set_cons_zero, List.set_cons_succ]
      refine wpAnyH_take (i := 4) (oi := { dst := some 33, op := Op.fieldAddr Tpt (Operand.tmp 32) 0, type := 0, pos := "law.go:46", after := #[{ on := 3, ground := Ground.data }], guard := none }) (v := .pointer (some ⟨g, off + k * 33, none⟩)) rfl (by kernel_rfl) (by kernel_rfl) (by kernel_rfl) (fun _ _ _ h => h) (Or.inl ⟨by rfl, ?_⟩) hHeld ?_
      · intro w' hSw
        obtain ⟨z1, z2, z3, z4⟩ := hSw
        have y1 : w'.cell? ⟨w.heap.size, 1, none⟩ = some (.slice (some ⟨g, off, none⟩) ps.length cap) := z1.cell 1
        have y2 : w'.cell? ⟨g, off + k * 33 + 32, none⟩ = some (.int .i64 p.2) := z2 32 _ HC32.out
        clear z1 z2
        go_simp
      simp only [Act.put, List.setIfInBounds_toArray, List.set_cons_zero, List.set_cons_succ]
      refine wpAnyH_take (i := 5) (oi := { dst := some 34, op := Op.load TI (Operand.tmp 33), type := TI, pos := "law.go:46", after := #[{ on := 4, ground := Ground.data }], guard := none }) (v := _) rfl (by kernel_rfl) (by kernel_rfl) (by kernel_rfl) (fun _ _ _ h => h) (yieldsIf_load_mid (by rfl) TI (.tmp 33) rfl g (off + k * 33) rfl (p.1.map byteV) (.array 32 5) (fun w hS => fun j u hu => hS.2.1 j u (by unfold ptC; rw [List.getElem?_append_left (List.getElem?_eq_some_iff.1 hu).1]; exact hu)) Tryd.underlying41 rfl SZI.out) hHeld ?_
      simp only [Act.put, List.setIfInBounds_toArray, List.set_cons_zero, List.set_cons_succ]
      refine wpAnyH_take (i := 7) (oi := { dst := some 36, op := Op.fieldAddr Trp (Operand.tmp 6) 0, type := 0, pos := "law.go:46", after := #[], guard := none }) (v := .pointer (some ⟨wr.heap.size, 0, none⟩)) rfl (by kernel_rfl) (by kernel_rfl) (by kernel_rfl) (fun _ _ _ h => h) (Or.inl ⟨by rfl, ?_⟩) hHeld ?_
      · intro w' hSw
        obtain ⟨z1, z2, z3, z4⟩ := hSw
        have y1 : w'.cell? ⟨w.heap.size, 1, none⟩ = some (.slice (some ⟨g, off, none⟩) ps.length cap) := z1.cell 1
        have y2 : w'.cell? ⟨g, off + k * 33 + 32, none⟩ = some (.int .i64 p.2) := z2 32 _ HC32.out
        clear z1 z2
        go_simp
      simp only [Act.put, List.setIfInBounds_toArray, List.set_cons_zero, List.set_cons_succ]
      refine wpAnyH_take (i := 8) (oi := { dst := some 37, op := Op.load 9 (Operand.tmp 36), type := 9, pos := "law.go:46", after := #[{ on := 7, ground := Ground.data }], guard := none }) (v := .string (str p.1)) rfl (by kernel_rfl) (by kernel_rfl) (by kernel_rfl) (fun _ _ _ h => h) (Or.inl ⟨by rfl, ?_⟩) hHeld ?_
      · intro w' hSw
        obtain ⟨z1, z2, z3, z4⟩ := hSw
        have y1 : w'.cell? ⟨w.heap.size, 1, none⟩ = some (.slice (some ⟨g, off, none⟩) ps.length cap) := z1.cell 1
        have y2 : w'.cell? ⟨g, off + k * 33 + 32, none⟩ = some (.int .i64 p.2) := z2 32 _ HC32.out
        clear z1 z2
        go_simp
      simp only [Act.put, List.setIfInBounds_toArray, List.set_cons_zero, List.set_cons_succ]
      refine wpAnyH_ready (rs := [6]) (by kernel_rfl) (by simp) (AllReadyH.cons rfl (fun K hK => ?_) AllReadyH.nil)
      go_simp
      refine (HBY.out _).mono ?_
      rintro e w7 ⟨rfl, hb7⟩
      dsimp only
      have HS7 := Lib.hid (show ISW w.heap.size wr.heap.size g (off + k * 33) lv (.slice (some ⟨g, off, none⟩) ps.length cap) p w7 from ISW.below HS6.out hb7)
      refine hK.out _ _ HS7.out (fun hH7 => ?_)
      clear hK K
      refine wpAnyH_take (i := 9) (oi := { dst := some 38, op := Op.binOp BinOp.neq 9 (Operand.tmp 35) (Operand.tmp 37) 9, type := 4, pos := "law.go:46", after := #[{ on := 6, ground := Ground.data }, { on := 8, ground := Ground.data }], guard := none }) (v := .bool false) rfl (by kernel_rfl) (by kernel_rfl) (by kernel_rfl) (fun _ _ _ h => h) (Or.inl ⟨by rfl, ?_⟩) hH7 ?_
      · intro w' hSw
        obtain ⟨z1, z2, z3, z4⟩ := hSw
        have y1 : w'.cell? ⟨w.heap.size, 1, none⟩ = some (.slice (some ⟨g, off, none⟩) ps.length cap) := z1.cell 1
        have y2 : w'.cell? ⟨g, off + k * 33 + 32, none⟩ = some (.int .i64 p.2) := z2 32 _ HC32.out
        clear z1 z2
        go_simp
      simp only [Act.put, List.setIfInBounds_toArray, List.set_cons_zero, List.set_cons_succ]
      refine wpAnyH_take (i := 10) (oi := { dst := some 39, op := Op.move (Operand.tmp 38), type := 4, pos := "law.go:46", after := #[{ on := 9, ground := Ground.data }, { on := 6, ground := Ground.chain }], guard := none }) (v := .bool false) rfl (by kernel_rfl) (by kernel_rfl) (by kernel_rfl) (fun _ _ _ h => h) (Or.inl ⟨by rfl, ?_⟩) hH7 ?_
      · intro w' hSw
        obtain ⟨z1, z2, z3, z4⟩ := hSw
        have y1 : w'.cell? ⟨w.heap.size, 1, none⟩ = some (.slice (some ⟨g, off, none⟩) ps.length cap) := z1.cell 1
        have y2 : w'.cell? ⟨g, off + k * 33 + 32, none⟩ = some (.int .i64 p.2) := z2 32 _ HC32.out
        clear z1 z2
        go_simp
      simp only [Act.put, List.setIfInBounds_toArray, List.set_cons_zero, List.set_cons_succ]
      refine wpAnyH_take (i := 11) (oi := { dst := some 40, op := Op.fieldAddr Tnd (Operand.tmp 2) 1, type := 0, pos := "law.go:46", after := #[{ on := 10, ground := Ground.guard }], guard := some (10, false) }) (v := .pointer (some ⟨w.heap.size, 1, none⟩)) rfl (by kernel_rfl) (by kernel_rfl) (by kernel_rfl) (fun _ _ _ h => h) (Or.inl ⟨by rfl, ?_⟩) hH7 ?_
      · intro w' hSw
        obtain ⟨z1, z2, z3, z4⟩ := hSw
        have y1 : w'.cell? ⟨w.heap.size, 1, none⟩ = some (.slice (some ⟨g, off, none⟩) ps.length cap) := z1.cell 1
        have y2 : w'.cell? ⟨g, off + k * 33 + 32, none⟩ = some (.int .i64 p.2) := z2 32 _ HC32.out
        clear z1 z2
        go_simp
      simp only [Act.put, List.setIfInBounds_toArray, List.set_cons_zero, List.set_cons_succ]
      refine wpAnyH_take (i := 12) (oi := { dst := some 41, op := Op.load Tsp9 (Operand.tmp 40), type := Tsp9, pos := "law.go:46", after := #[{ on := 11, ground := Ground.data }, { on := 10, ground := Ground.guard }], guard := some (10, false) }) (v := .slice (some ⟨g, off, none⟩) ps.length cap) rfl (by kernel_rfl) (by kernel_rfl) (by kernel_rfl) (fun _ _ _ h => h) (Or.inl ⟨by rfl, ?_⟩) hH7 ?_
      · intro w' hSw
        obtain ⟨z1, z2, z3, z4⟩ := hSw
        have y1 : w'.cell? ⟨w.heap.size, 1, none⟩ = some (.slice (some ⟨g, off, none⟩) ps.length cap) := z1.cell 1
        have y2 : w'.cell? ⟨g, off + k * 33 + 32, none⟩ = some (.int .i64 p.2) := z2 32 _ HC32.out
        clear z1 z2
        go_simp
      simp only [Act.put, List.setIfInBounds_toArray, List.set_cons_zero, List.set_cons_succ]
      refine wpAnyH_take (i := 13) (oi := { dst := some 42, op := Op.move (Operand.tmp 5), type := 3, pos := "law.go:46", after := #[{ on := 10, ground := Ground.guard }], guard := some (10, false) }) (v := .int .i64 (k : Int)) rfl (by kernel_rfl) (by kernel_rfl) (by kernel_rfl) (fun _ _ _ h => h) (Or.inl ⟨by rfl, ?_⟩) hH7 ?_
      · intro w' hSw
        obtain ⟨z1, z2, z3, z4⟩ := hSw
        have y1 : w'.cell? ⟨w.heap.size, 1, none⟩ = some (.slice (some ⟨g, off, none⟩) ps.length cap) := z1.cell 1
        have y2 : w'.cell? ⟨g, off + k * 33 + 32, none⟩ = some (.int .i64 p.2) := z2 32 _ HC32.out
        clear z1 z2
        go_simp
      simp only [Act.put, List.setIfInBounds_toArray, List.set_cons_zero, List.set_cons_succ]
      refine wpAnyH_take (i := 14) (oi := { dst := some 43, op := Op.indexAddr Tsp9 (Operand.tmp 41) (Operand.tmp 42), type := 0, pos := "law.go:46", after := #[{ on := 12, ground := Ground.data }, { on := 13, ground := Ground.data }, { on := 10, ground := Ground.guard }], guard := some (10, false) }) (v := .pointer (some ⟨g, off + k * 33, none⟩)) rfl (by kernel_rfl) (by kernel_rfl) (by kernel_rfl) (fun _ _ _ h => h) (Or.inl ⟨by rfl, ?_⟩) hH7 ?_
      · intro w' hSw
        obtain ⟨z1, z2, z3, z4⟩ := hSw
        have y1 : w'.cell? ⟨w.heap.size, 1, none⟩ = some (.slice (some ⟨g, off, none⟩) ps.length cap) := z1.cell 1
        have y2 : w'.cell? ⟨g, off + k * 33 + 32, none⟩ = some (.int .i64 p.2) := z2 32 _ HC32.out
        clear z1 z2
        go_simp
      simp only [Act.put, List.setIfInBounds_toArray, List.set_cons_zero, List.set_cons_succ]
      refine wpAnyH_take (i := 15) (oi := { dst := some 44, op := Op.fieldAddr Tpt (Operand.tmp 43) 1, type := 0, pos := "law.go:46", after := #[{ on := 14, ground := Ground.data }, { on := 10, ground := Ground.guard }], guard := some (10, false) }) (v := .pointer (some ⟨g, off + k * 33 + 32, none⟩)) rfl (by kernel_rfl) (by kernel_rfl) (by kernel_rfl) (fun _ _ _ h => h) (Or.inl ⟨by rfl, ?_⟩) hH7 ?_
      · intro w' hSw
        obtain ⟨z1, z2, z3, z4⟩ := hSw
        have y1 : w'.cell? ⟨w.heap.size, 1, none⟩ = some (.slice (some ⟨g, off, none⟩) ps.length cap) := z1.cell 1
        have y2 : w'.cell? ⟨g, off + k * 33 + 32, none⟩ = some (.int .i64 p.2) := z2 32 _ HC32.out
        clear z1 z2
        go_simp
      simp only [Act.put, List.setIfInBounds_toArray, List.set_cons_zero, List.set_cons_succ]
      refine wpAnyH_take (i := 16) (oi := { dst := some 45, op := Op.load 3 (Operand.tmp 44), type := 3, pos := "law.go:46", after := #[{ on := 15, ground := Ground.data }, { on := 10, ground := Ground.guard }], guard := some (10, false) }) (v := .int .i64 p.2) rfl (by kernel_rfl) (by kernel_rfl) (by kernel_rfl) (fun _ _ _ h => h) (Or.inl ⟨by rfl, ?_⟩) hH7 ?_
      · intro w' hSw
        obtain ⟨z1, z2, z3, z4⟩ := hSw
        have y1 : w'.cell? ⟨w.heap.size, 1, none⟩ = some (.slice (some ⟨g, off, none⟩) ps.length cap) := z1.cell 1
        have y2 : w'.cell? ⟨g, off + k * 33 + 32, none⟩ = some (.int .i64 p.2) := z2 32 _ HC32.out
        clear z1 z2
        go_simp
      simp only [Act.put, List.setIfInBounds_toArray, List.set_cons_zero, List.set_cons_succ]
      refine wpAnyH_take (i := 17) (oi := { dst := some 46, op := Op.fieldAddr Trp (Operand.tmp 6) 1, type := 0, pos := "law.go:46", after := #[{ on := 10, ground := Ground.guard }], guard := some (10, false) }) (v := .pointer (some ⟨wr.heap.size, 1, none⟩)) rfl (by kernel_rfl) (by kernel_rfl) (by kernel_rfl) (fun _ _ _ h => h) (Or.inl ⟨by rfl, ?_⟩) hH7 ?_
      · intro w' hSw
        obtain ⟨z1, z2, z3, z4⟩ := hSw
        have y1 : w'.cell? ⟨w.heap.size, 1, none⟩ = some (.slice (some ⟨g, off, none⟩) ps.length cap) := z1.cell 1
        have y2 : w'.cell? ⟨g, off + k * 33 + 32, none⟩ = some (.int .i64 p.2) := z2 32 _ HC32.out
        clear z1 z2
        go_simp
      simp only [Act.put, List.setIfInBounds_toArray, List.set_cons_zero, List.set_cons_succ]
      refine wpAnyH_take (i := 18) (oi := { dst := some 47, op := Op.load 3 (Operand.tmp 46), type := 3, pos := "law.go:46", after := #[{ on := 17, ground := Ground.data }, { on := 10, ground := Ground.guard }], guard := some (10, false) }) (v := .int .i64 p.2) rfl (by kernel_rfl) (by kernel_rfl) (by kernel_rfl) (fun _ _ _ h => h) (Or.inl ⟨by rfl, ?_⟩) hH7 ?_
      · intro w' hSw
        obtain ⟨z1, z2, z3, z4⟩ := hSw
        have y1 : w'.cell? ⟨w.heap.size, 1, none⟩ = some (.slice (some ⟨g, off, none⟩) ps.length cap) := z1.cell 1
        have y2 : w'.cell? ⟨g, off + k * 33 + 32, none⟩ = some (.int .i64 p.2) := z2 32 _ HC32.out
        clear z1 z2
        go_simp
      simp only [Act.put, List.setIfInBounds_toArray, List.set_cons_zero, List.set_cons_succ]
      refine wpAnyH_take (i := 19) (oi := { dst := some 48, op := Op.binOp BinOp.neq 3 (Operand.tmp 45) (Operand.tmp 47) 3, type := 4, pos := "law.go:46", after := #[{ on := 16, ground := Ground.data }, { on := 18, ground := Ground.data }, { on := 10, ground := Ground.guard }], guard := some (10, false) }) (v := .bool false) rfl (by kernel_rfl) (by kernel_rfl) (by kernel_rfl) (fun _ _ _ h => h) (Or.inl ⟨by rfl, ?_⟩) hH7 ?_
      · intro w' hSw
        obtain ⟨z1, z2, z3, z4⟩ := hSw
        have y1 : w'.cell? ⟨w.heap.size, 1, none⟩ = some (.slice (some ⟨g, off, none⟩) ps.length cap) := z1.cell 1
        have y2 : w'.cell? ⟨g, off + k * 33 + 32, none⟩ = some (.int .i64 p.2) := z2 32 _ HC32.out
        clear z1 z2
        go_simp
      simp only [Act.put, List.setIfInBounds_toArray, List.set_cons_zero, List.set_cons_succ]
      refine wpAnyH_take (i := 20) (oi := { dst := some 49, op := Op.pick (Operand.tmp 39) (Operand.const (Value.bool true)) (Operand.tmp 48), type := 4, pos := "law.go:46", after := #[{ on := 10, ground := Ground.data }, { on := 19, ground := Ground.data }], guard := none }) (v := .bool false) rfl (by kernel_rfl) (by kernel_rfl) (by kernel_rfl) (fun _ _ _ h => h) (Or.inl ⟨by rfl, ?_⟩) hH7 ?_
      · intro w' hSw
        obtain ⟨z1, z2, z3, z4⟩ := hSw
        have y1 : w'.cell? ⟨w.heap.size, 1, none⟩ = some (.slice (some ⟨g, off, none⟩) ps.length cap) := z1.cell 1
        have y2 : w'.cell? ⟨g, off + k * 33 + 32, none⟩ = some (.int .i64 p.2) := z2 32 _ HC32.out
        clear z1 z2
        go_simp
      simp only [Act.put, List.setIfInBounds_toArray, List.set_cons_zero, List.set_cons_succ]
      refine wpAnyH_done (by kernel_rfl) ?_ _
      have HBE := Lib.hid (show Below W0.heap.size W0 w7 from belowThen (belowThen hb HB6.out) (show Below W6.heap.size W6 w7 from ⟨hb7.os, hb7.tape, hb7.output, hb7.size, hb7.block⟩))
      clear hb7 hHeld hH7
      rename_i Kz hKz
      refine hKz _ _ ?_
      go_wp2_with fail
      go_roundw
      case rel => exact ⟨k + 1, by omega, by go_num, HBE.out⟩
      case measure => simp [intOf]; omega
-- END
    · have ek : k = ps.length := by omega
      subst ek
      have hdk : decide (ps.length < ps.length) = false := by simp
      go_wp2_with fail
      go_ret
      exact ⟨rfl, belowThen HB0.out hb⟩
end Go.Proofs.YtjdhcanblpifcaaDoor
