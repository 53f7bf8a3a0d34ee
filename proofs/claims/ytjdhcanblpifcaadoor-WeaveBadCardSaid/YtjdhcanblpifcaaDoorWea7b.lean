/-
  Package weave: giveNode where it goes well and a level is expected.
-/
import Derived.Test.YtjdhcanblpifcaaDoorWea7a
namespace Go.Proofs.YtjdhcanblpifcaaDoor
open Go.RowKit Crv
set_option maxRecDepth 100000 in
set_option maxHeartbeats 600000 in
theorem giveNode_okB (W : World) (wb base g cap : Nat) (vt : Value) (s : Stp) (rest : List Stp) (out : List UInt8) (got : Nat) (t : List UInt8) (h32 : s.1.1.length = 32) (hbs : base ≤ W.heap.size) (h : Wv W wb base (.slice (some ⟨g, 0, none⟩) (rest.length + 1) cap) vt (s :: rest, out, got)) (he : (parseN t).2.2 = 0) (hL : max s.2 0 ≠ 0) (hlv : (parseN t).1 = max s.2 0) (hsum : sumP (parseN t).2.1 = s.1.2) (hgot : got ≤ 1000000) (hl : rest.length ≤ 1000000) :
    Calls Tryd.prog 51 #[ptr wb, .agg (pdC s).toArray, .string (str t)] W fun e w' => e = .returned (.int .i64 0) ∧ ∃ vp', Wv w' wb base vp' vt ((parseN t).2.1.map (fun p => (p, (parseN t).1 - 1)) ++ rest, out, got + 1) ∧ Fr base wb (.slice (some ⟨g, 0, none⟩) (rest.length + 1) cap) vt W w' := by
  have HW := Lib.hid h
  have H34 := Lib.hid (pd_lvl s h32)
  have H33 := Lib.hid (pd_size s h32)
  have HPA := Lib.hid (fun W => parse_own t W)
  have HOK := Lib.hid (parse_ok t he)
  have HSIZE := Lib.hid (show ∀ (w : World) {v : Value}, Pts w v (parseN t).2.1 → Calls Tryd.prog 61 #[.agg #[.int .i64 (parseN t).1, v]] w fun e w' => e = .returned (.int .i64 (sumP (parseN t).2.1)) ∧ Below w.heap.size w w' from fun w v hv => by
    obtain ⟨_, h2, _, h4, _, _⟩ := HOK.out
    obtain ⟨_, _, _, _, c5, _⟩ := chkN_zero h2
    have hs := small_of c5 h4
    exact size_any _ v _ w hv hs.1 hs.2 (by omega))
  obtain ⟨⟨x, z⟩, lv⟩ := s
  simp only at H34 H33 h32 hL hlv hsum
  obtain ⟨P0, hP0⟩ : ∃ c, c = pdC ((x, z), lv) := ⟨_, rfl⟩
  obtain ⟨L0, hL0⟩ : ∃ c, c = max lv 0 := ⟨_, rfl⟩
  obtain ⟨pl, ps, pe, hpn⟩ : ∃ a b c, parseN t = (a, b, c) := ⟨_, _, _, rfl⟩
  rw [hpn] at HPA he HSIZE hlv hsum ⊢
  simp only at HPA he HSIZE hL hlv hsum ⊢
  subst he
  rw [← hL0] at H34 hL hlv
  rw [← hP0] at H34 H33 ⊢
  have HPS := Lib.hid (show ps ≠ [] ∧ ps.length ≤ 8 ∧ 1 ≤ pl ∧ pl ≤ 8 by
    have h2 := HOK.out
    rw [hpn] at h2
    obtain ⟨_, h2, _, h4, _, _⟩ := h2
    obtain ⟨c1, c2, c3, _, _, _⟩ := chkN_zero h2
    exact ⟨c3, h4, c1, c2⟩)
  have hwb : wb < W.heap.size := HW.out.1.lt
  obtain ⟨q, hq⟩ := Int.eq_ofNat_of_zero_le (show 0 ≤ pl by have := HPS.out.2.2.1; omega)
  have hq1 : 1 ≤ q ∧ q ≤ 8 := by have := HPS.out.2.2; omega
  have hpl8 := HPS.out.2.1
  have HQ := Lib.hid hq
  clear hq
  clear hpn h hP0 hL0 HOK
  have hd2 : ((L0 : Int) != 0) = true := by simpa using hL
  have hd8 : ((pl : Int) != L0) = false := by simpa using hlv
  have hd17 : ((sumP ps : Int) != z) = false := by simpa using hsum
  clear hL hlv hsum
  refine (callsIn_wide (n := 3)).1 ?_
  refine callsIn_of_wp_marks Tryd.func51 rfl trivial ?_ rfl
  simp only [Tryd.ntmps51, List.size_toArray, List.length_cons, List.length_nil, Nat.reduceAdd, Nat.reduceSub, Array.replicate_succ, Array.replicate_zero, List.push_toArray, List.append_toArray, List.nil_append, List.cons_append]
  gi_wp2_with fail
  refine ⟨trivial, ?_⟩
  refine ((callsIn_wide (n := _)).2 (HPA.out _)).mono ?_
  rintro e w1 ⟨v, rfl, ⟨hn1, hr1⟩, hb1⟩
  obtain ⟨g3, cv, hv, hcv, -⟩ := hr1.front (by rw [List.length_map]; exact List.length_pos_iff.2 HPS.out.1)
  rw [List.length_map] at hv hcv
  subst hv
  have HGN := Lib.hid (show GN W wb base (.slice (some ⟨g, 0, none⟩) (rest.length + 1) cap) vt (((x, z), lv) :: rest, out, got) P0 w1.heap.size pl (.slice (some ⟨g3, 0, none⟩) ps.length cv) ps (w1.alloc (.cells #[.int .i64 pl, .slice (some ⟨g3, 0, none⟩) ps.length cv] Tnd)) from
    ⟨((Mem.newAt (W.alloc (.cells #[ptr wb] Tpw)) Tpd P0 (g := W.heap.size + 1) (by simp)).below hb1 (by simp)).alloc _, Mem.new w1 Tnd [.int .i64 pl, .slice (some ⟨g3, 0, none⟩) ps.length cv], (show Pts w1 _ ps from ⟨hn1, hr1.rd⟩).below (belowSelf _ _), ⟨(((Mem.new W Tpw [ptr wb]).alloc _).below hb1 (by simp; omega)).alloc _, (hr1.mono (by simp)).below (belowSelf _ _)⟩, ((((HW.out.below (belowSelf W _)).below (belowSelf _ _)).below hb1).below (belowSelf _ _)), Fr.of_below hbs (belowThen (belowThen (belowThen (belowSelf W _) (belowSelf _ _)) hb1) (belowSelf _ _))⟩)
  have hz1 : W.heap.size + 1 + 1 ≤ w1.heap.size := by have := hb1.size; simpa using this
  have hn32 := hn1
  clear hn1 hr1 hb1 HPA
  gi_wp2_with fail
-- BEGIN1
  have HS0 := Lib.hid (show GN W wb base (.slice (some ⟨g, 0, none⟩) (rest.length + 1) cap) vt (((x, z), lv) :: rest, out, got) P0 w1.heap.size pl (.slice (some ⟨g3, 0, none⟩) ps.length cv) ps (w1.alloc (.cells #[.int .i64 pl, .slice (some ⟨g3, 0, none⟩) ps.length cv] Tnd)).drew from HGN.out.below hbs (below_drewN (Below.refl _ _) 1))
  rename_i Kz hKz
  refine wpIn_mono (Q := Exit.then Kz (fun _ _ _ => False)) ?_ (fun e a W h => by cases e <;> first | exact h | exact h.elim)
  refine region_held_ofW (S := GN W wb base (.slice (some ⟨g, 0, none⟩) (rest.length + 1) cap) vt (((x, z), lv) :: rest, out, got) P0 w1.heap.size pl (.slice (some ⟨g3, 0, none⟩) ps.length cv) ps) (by kernel_rfl) (by rintro ⟨_, _, h⟩; exact h) (by kernel_rfl) HS0.out (fun hHeld => ?_)
  refine wpAnyH_take (i := 0) (oi := { dst := some 19, op := Op.fieldAddr 117 (Operand.tmp 4) 1, type := 0, pos := "weave.go:73", after := #[], guard := none }) (v := .pointer (some ⟨W.heap.size + 1, 34, none⟩)) rfl (by kernel_rfl) (by kernel_rfl) (by kernel_rfl) (fun _ _ _ h => h) (Or.inl ⟨by rfl, ?_⟩) hHeld ?_
  · intro w' hSw
    obtain ⟨z1, z2, -⟩ := hSw
    have y34 : w'.cell? ⟨W.heap.size + 1, 34, none⟩ = some (.int .i64 L0) := (z1.cell 34).trans H34.out
    have y33 : w'.cell? ⟨W.heap.size + 1, 33, none⟩ = some (.int .i64 z) := (z1.cell 33).trans H33.out
    have n0 : w'.cell? ⟨w1.heap.size, 0, none⟩ = some (.int .i64 pl) := z2.cell 0
    have n1 : w'.cell? ⟨w1.heap.size, 1, none⟩ = some (.slice (some ⟨g3, 0, none⟩) ps.length cv) := z2.cell 1
    clear z1 z2
    go_simp
  simp only [Act.put, List.setIfInBounds_toArray, List.set_cons_zero, List.set_cons_succ]
  refine wpAnyH_take (i := 1) (oi := { dst := some 20, op := Op.load 3 (Operand.tmp 19), type := 3, pos := "weave.go:73", after := #[{ on := 0, ground := Ground.data }], guard := none }) (v := .int .i64 L0) rfl (by kernel_rfl) (by kernel_rfl) (by kernel_rfl) (fun _ _ _ h => h) (Or.inl ⟨by rfl, ?_⟩) hHeld ?_
  · intro w' hSw
    obtain ⟨z1, z2, -⟩ := hSw
    have y34 : w'.cell? ⟨W.heap.size + 1, 34, none⟩ = some (.int .i64 L0) := (z1.cell 34).trans H34.out
    have y33 : w'.cell? ⟨W.heap.size + 1, 33, none⟩ = some (.int .i64 z) := (z1.cell 33).trans H33.out
    have n0 : w'.cell? ⟨w1.heap.size, 0, none⟩ = some (.int .i64 pl) := z2.cell 0
    have n1 : w'.cell? ⟨w1.heap.size, 1, none⟩ = some (.slice (some ⟨g3, 0, none⟩) ps.length cv) := z2.cell 1
    clear z1 z2
    go_simp
  simp only [Act.put, List.setIfInBounds_toArray, List.set_cons_zero, List.set_cons_succ]
  refine wpAnyH_take (i := 2) (oi := { dst := some 21, op := Op.binOp BinOp.neq 3 (Operand.tmp 20) (Operand.const (Value.int IntKind.i64 0)) 3, type := 4, pos := "weave.go:73", after := #[{ on := 1, ground := Ground.data }], guard := none }) (v := .bool true) rfl (by kernel_rfl) (by kernel_rfl) (by kernel_rfl) (fun _ _ _ h => h) (Or.inl ⟨by rfl, ?_⟩) hHeld ?_
  · intro w' hSw
    obtain ⟨z1, z2, -⟩ := hSw
    have y34 : w'.cell? ⟨W.heap.size + 1, 34, none⟩ = some (.int .i64 L0) := (z1.cell 34).trans H34.out
    have y33 : w'.cell? ⟨W.heap.size + 1, 33, none⟩ = some (.int .i64 z) := (z1.cell 33).trans H33.out
    have n0 : w'.cell? ⟨w1.heap.size, 0, none⟩ = some (.int .i64 pl) := z2.cell 0
    have n1 : w'.cell? ⟨w1.heap.size, 1, none⟩ = some (.slice (some ⟨g3, 0, none⟩) ps.length cv) := z2.cell 1
    clear z1 z2
    go_simp
  simp only [Act.put, List.setIfInBounds_toArray, List.set_cons_zero, List.set_cons_succ]
  refine wpAnyH_take (i := 3) (oi := { dst := some 22, op := Op.move (Operand.tmp 21), type := 4, pos := "weave.go:73", after := #[{ on := 2, ground := Ground.data }], guard := none }) (v := .bool true) rfl (by kernel_rfl) (by kernel_rfl) (by kernel_rfl) (fun _ _ _ h => h) (Or.inl ⟨by rfl, ?_⟩) hHeld ?_
  · intro w' hSw
    obtain ⟨z1, z2, -⟩ := hSw
    have y34 : w'.cell? ⟨W.heap.size + 1, 34, none⟩ = some (.int .i64 L0) := (z1.cell 34).trans H34.out
    have y33 : w'.cell? ⟨W.heap.size + 1, 33, none⟩ = some (.int .i64 z) := (z1.cell 33).trans H33.out
    have n0 : w'.cell? ⟨w1.heap.size, 0, none⟩ = some (.int .i64 pl) := z2.cell 0
    have n1 : w'.cell? ⟨w1.heap.size, 1, none⟩ = some (.slice (some ⟨g3, 0, none⟩) ps.length cv) := z2.cell 1
    clear z1 z2
    go_simp
  simp only [Act.put, List.setIfInBounds_toArray, List.set_cons_zero, List.set_cons_succ]
  refine wpAnyH_take (i := 4) (oi := { dst := some 23, op := Op.fieldAddr 25 (Operand.tmp 7) 0, type := 0, pos := "weave.go:73", after := #[{ on := 3, ground := Ground.guard }], guard := some (3, true) }) (v := .pointer (some ⟨w1.heap.size, 0, none⟩)) rfl (by kernel_rfl) (by kernel_rfl) (by kernel_rfl) (fun _ _ _ h => h) (Or.inl ⟨by rfl, ?_⟩) hHeld ?_
  · intro w' hSw
    obtain ⟨z1, z2, -⟩ := hSw
    have y34 : w'.cell? ⟨W.heap.size + 1, 34, none⟩ = some (.int .i64 L0) := (z1.cell 34).trans H34.out
    have y33 : w'.cell? ⟨W.heap.size + 1, 33, none⟩ = some (.int .i64 z) := (z1.cell 33).trans H33.out
    have n0 : w'.cell? ⟨w1.heap.size, 0, none⟩ = some (.int .i64 pl) := z2.cell 0
    have n1 : w'.cell? ⟨w1.heap.size, 1, none⟩ = some (.slice (some ⟨g3, 0, none⟩) ps.length cv) := z2.cell 1
    clear z1 z2
    go_simp
  simp only [Act.put, List.setIfInBounds_toArray, List.set_cons_zero, List.set_cons_succ]
  refine wpAnyH_take (i := 5) (oi := { dst := some 24, op := Op.load 3 (Operand.tmp 23), type := 3, pos := "weave.go:73", after := #[{ on := 4, ground := Ground.data }, { on := 3, ground := Ground.guard }], guard := some (3, true) }) (v := .int .i64 pl) rfl (by kernel_rfl) (by kernel_rfl) (by kernel_rfl) (fun _ _ _ h => h) (Or.inl ⟨by rfl, ?_⟩) hHeld ?_
  · intro w' hSw
    obtain ⟨z1, z2, -⟩ := hSw
    have y34 : w'.cell? ⟨W.heap.size + 1, 34, none⟩ = some (.int .i64 L0) := (z1.cell 34).trans H34.out
    have y33 : w'.cell? ⟨W.heap.size + 1, 33, none⟩ = some (.int .i64 z) := (z1.cell 33).trans H33.out
    have n0 : w'.cell? ⟨w1.heap.size, 0, none⟩ = some (.int .i64 pl) := z2.cell 0
    have n1 : w'.cell? ⟨w1.heap.size, 1, none⟩ = some (.slice (some ⟨g3, 0, none⟩) ps.length cv) := z2.cell 1
    clear z1 z2
    go_simp
  simp only [Act.put, List.setIfInBounds_toArray, List.set_cons_zero, List.set_cons_succ]
  refine wpAnyH_take (i := 6) (oi := { dst := some 25, op := Op.fieldAddr 117 (Operand.tmp 4) 1, type := 0, pos := "weave.go:73", after := #[{ on := 3, ground := Ground.guard }], guard := some (3, true) }) (v := .pointer (some ⟨W.heap.size + 1, 34, none⟩)) rfl (by kernel_rfl) (by kernel_rfl) (by kernel_rfl) (fun _ _ _ h => h) (Or.inl ⟨by rfl, ?_⟩) hHeld ?_
  · intro w' hSw
    obtain ⟨z1, z2, -⟩ := hSw
    have y34 : w'.cell? ⟨W.heap.size + 1, 34, none⟩ = some (.int .i64 L0) := (z1.cell 34).trans H34.out
    have y33 : w'.cell? ⟨W.heap.size + 1, 33, none⟩ = some (.int .i64 z) := (z1.cell 33).trans H33.out
    have n0 : w'.cell? ⟨w1.heap.size, 0, none⟩ = some (.int .i64 pl) := z2.cell 0
    have n1 : w'.cell? ⟨w1.heap.size, 1, none⟩ = some (.slice (some ⟨g3, 0, none⟩) ps.length cv) := z2.cell 1
    clear z1 z2
    go_simp
  simp only [Act.put, List.setIfInBounds_toArray, List.set_cons_zero, List.set_cons_succ]
  refine wpAnyH_take (i := 7) (oi := { dst := some 26, op := Op.load 3 (Operand.tmp 25), type := 3, pos := "weave.go:73", after := #[{ on := 6, ground := Ground.data }, { on := 3, ground := Ground.guard }], guard := some (3, true) }) (v := .int .i64 L0) rfl (by kernel_rfl) (by kernel_rfl) (by kernel_rfl) (fun _ _ _ h => h) (Or.inl ⟨by rfl, ?_⟩) hHeld ?_
  · intro w' hSw
    obtain ⟨z1, z2, -⟩ := hSw
    have y34 : w'.cell? ⟨W.heap.size + 1, 34, none⟩ = some (.int .i64 L0) := (z1.cell 34).trans H34.out
    have y33 : w'.cell? ⟨W.heap.size + 1, 33, none⟩ = some (.int .i64 z) := (z1.cell 33).trans H33.out
    have n0 : w'.cell? ⟨w1.heap.size, 0, none⟩ = some (.int .i64 pl) := z2.cell 0
    have n1 : w'.cell? ⟨w1.heap.size, 1, none⟩ = some (.slice (some ⟨g3, 0, none⟩) ps.length cv) := z2.cell 1
    clear z1 z2
    go_simp
  simp only [Act.put, List.setIfInBounds_toArray, List.set_cons_zero, List.set_cons_succ]
  refine wpAnyH_take (i := 8) (oi := { dst := some 27, op := Op.binOp BinOp.neq 3 (Operand.tmp 24) (Operand.tmp 26) 3, type := 4, pos := "weave.go:73", after := #[{ on := 5, ground := Ground.data }, { on := 7, ground := Ground.data }, { on := 3, ground := Ground.guard }], guard := some (3, true) }) (v := .bool false) rfl (by kernel_rfl) (by kernel_rfl) (by kernel_rfl) (fun _ _ _ h => h) (Or.inl ⟨by rfl, ?_⟩) hHeld ?_
  · intro w' hSw
    obtain ⟨z1, z2, -⟩ := hSw
    have y34 : w'.cell? ⟨W.heap.size + 1, 34, none⟩ = some (.int .i64 L0) := (z1.cell 34).trans H34.out
    have y33 : w'.cell? ⟨W.heap.size + 1, 33, none⟩ = some (.int .i64 z) := (z1.cell 33).trans H33.out
    have n0 : w'.cell? ⟨w1.heap.size, 0, none⟩ = some (.int .i64 pl) := z2.cell 0
    have n1 : w'.cell? ⟨w1.heap.size, 1, none⟩ = some (.slice (some ⟨g3, 0, none⟩) ps.length cv) := z2.cell 1
    clear z1 z2
    go_simp
  simp only [Act.put, List.setIfInBounds_toArray, List.set_cons_zero, List.set_cons_succ]
  refine wpAnyH_take (i := 9) (oi := { dst := some 28, op := Op.pick (Operand.tmp 22) (Operand.tmp 27) (Operand.const (Value.bool false)), type := 4, pos := "weave.go:73", after := #[{ on := 3, ground := Ground.data }, { on := 8, ground := Ground.data }], guard := none }) (v := .bool false) rfl (by kernel_rfl) (by kernel_rfl) (by kernel_rfl) (fun _ _ _ h => h) (Or.inl ⟨by rfl, ?_⟩) hHeld ?_
  · intro w' hSw
    obtain ⟨z1, z2, -⟩ := hSw
    have y34 : w'.cell? ⟨W.heap.size + 1, 34, none⟩ = some (.int .i64 L0) := (z1.cell 34).trans H34.out
    have y33 : w'.cell? ⟨W.heap.size + 1, 33, none⟩ = some (.int .i64 z) := (z1.cell 33).trans H33.out
    have n0 : w'.cell? ⟨w1.heap.size, 0, none⟩ = some (.int .i64 pl) := z2.cell 0
    have n1 : w'.cell? ⟨w1.heap.size, 1, none⟩ = some (.slice (some ⟨g3, 0, none⟩) ps.length cv) := z2.cell 1
    clear z1 z2
    go_simp
  simp only [Act.put, List.setIfInBounds_toArray, List.set_cons_zero, List.set_cons_succ]
  refine wpAnyH_take (i := 10) (oi := { dst := some 29, op := Op.move (Operand.tmp 28), type := 4, pos := "weave.go:73", after := #[{ on := 9, ground := Ground.data }, { on := 3, ground := Ground.chain }], guard := none }) (v := .bool false) rfl (by kernel_rfl) (by kernel_rfl) (by kernel_rfl) (fun _ _ _ h => h) (Or.inl ⟨by rfl, ?_⟩) hHeld ?_
  · intro w' hSw
    obtain ⟨z1, z2, -⟩ := hSw
    have y34 : w'.cell? ⟨W.heap.size + 1, 34, none⟩ = some (.int .i64 L0) := (z1.cell 34).trans H34.out
    have y33 : w'.cell? ⟨W.heap.size + 1, 33, none⟩ = some (.int .i64 z) := (z1.cell 33).trans H33.out
    have n0 : w'.cell? ⟨w1.heap.size, 0, none⟩ = some (.int .i64 pl) := z2.cell 0
    have n1 : w'.cell? ⟨w1.heap.size, 1, none⟩ = some (.slice (some ⟨g3, 0, none⟩) ps.length cv) := z2.cell 1
    clear z1 z2
    go_simp
  simp only [Act.put, List.setIfInBounds_toArray, List.set_cons_zero, List.set_cons_succ]
  refine wpAnyH_take (i := 11) (oi := { dst := some 30, op := Op.load 25 (Operand.tmp 7), type := 25, pos := "weave.go:73", after := #[{ on := 10, ground := Ground.guard }], guard := some (10, false) }) (v := .agg #[.int .i64 pl, .slice (some ⟨g3, 0, none⟩) ps.length cv]) rfl (by kernel_rfl) (by kernel_rfl) (by kernel_rfl) (fun _ _ _ h => h) (Or.inl ⟨by rfl, ?_⟩) hHeld ?_
  · intro w' hSw
    obtain ⟨z1, z2, -⟩ := hSw
    have y34 : w'.cell? ⟨W.heap.size + 1, 34, none⟩ = some (.int .i64 L0) := (z1.cell 34).trans H34.out
    have y33 : w'.cell? ⟨W.heap.size + 1, 33, none⟩ = some (.int .i64 z) := (z1.cell 33).trans H33.out
    have n0 : w'.cell? ⟨w1.heap.size, 0, none⟩ = some (.int .i64 pl) := z2.cell 0
    have n1 : w'.cell? ⟨w1.heap.size, 1, none⟩ = some (.slice (some ⟨g3, 0, none⟩) ps.length cv) := z2.cell 1
    clear z1 z2
    go_simp
  simp only [Act.put, List.setIfInBounds_toArray, List.set_cons_zero, List.set_cons_succ]
  refine wpAnyH_take (i := 13) (oi := { dst := some 32, op := Op.fieldAddr 117 (Operand.tmp 4) 0, type := 0, pos := "weave.go:73", after := #[{ on := 10, ground := Ground.guard }], guard := some (10, false) }) (v := .pointer (some ⟨W.heap.size + 1, 0, none⟩)) rfl (by kernel_rfl) (by kernel_rfl) (by kernel_rfl) (fun _ _ _ h => h) (Or.inl ⟨by rfl, ?_⟩) hHeld ?_
  · intro w' hSw
    obtain ⟨z1, z2, -⟩ := hSw
    have y34 : w'.cell? ⟨W.heap.size + 1, 34, none⟩ = some (.int .i64 L0) := (z1.cell 34).trans H34.out
    have y33 : w'.cell? ⟨W.heap.size + 1, 33, none⟩ = some (.int .i64 z) := (z1.cell 33).trans H33.out
    have n0 : w'.cell? ⟨w1.heap.size, 0, none⟩ = some (.int .i64 pl) := z2.cell 0
    have n1 : w'.cell? ⟨w1.heap.size, 1, none⟩ = some (.slice (some ⟨g3, 0, none⟩) ps.length cv) := z2.cell 1
    clear z1 z2
    go_simp
  simp only [Act.put, List.setIfInBounds_toArray, List.set_cons_zero, List.set_cons_succ]
  refine wpAnyH_take (i := 14) (oi := { dst := some 33, op := Op.fieldAddr 113 (Operand.tmp 32) 1, type := 0, pos := "weave.go:73", after := #[{ on := 13, ground := Ground.data }, { on := 10, ground := Ground.guard }], guard := some (10, false) }) (v := .pointer (some ⟨W.heap.size + 1, 1, none⟩)) rfl (by kernel_rfl) (by kernel_rfl) (by kernel_rfl) (fun _ _ _ h => h) (Or.inl ⟨by rfl, ?_⟩) hHeld ?_
  · intro w' hSw
    obtain ⟨z1, z2, -⟩ := hSw
    have y34 : w'.cell? ⟨W.heap.size + 1, 34, none⟩ = some (.int .i64 L0) := (z1.cell 34).trans H34.out
    have y33 : w'.cell? ⟨W.heap.size + 1, 33, none⟩ = some (.int .i64 z) := (z1.cell 33).trans H33.out
    have n0 : w'.cell? ⟨w1.heap.size, 0, none⟩ = some (.int .i64 pl) := z2.cell 0
    have n1 : w'.cell? ⟨w1.heap.size, 1, none⟩ = some (.slice (some ⟨g3, 0, none⟩) ps.length cv) := z2.cell 1
    clear z1 z2
    go_simp
  simp only [Act.put, List.setIfInBounds_toArray, List.set_cons_zero, List.set_cons_succ]
  refine wpAnyH_take (i := 15) (oi := { dst := some 34, op := Op.fieldAddr 43 (Operand.tmp 33) 1, type := 0, pos := "weave.go:73", after := #[{ on := 14, ground := Ground.data }, { on := 10, ground := Ground.guard }], guard := some (10, false) }) (v := .pointer (some ⟨W.heap.size + 1, 33, none⟩)) rfl (by kernel_rfl) (by kernel_rfl) (by kernel_rfl) (fun _ _ _ h => h) (Or.inl ⟨by rfl, ?_⟩) hHeld ?_
  · intro w' hSw
    obtain ⟨z1, z2, -⟩ := hSw
    have y34 : w'.cell? ⟨W.heap.size + 1, 34, none⟩ = some (.int .i64 L0) := (z1.cell 34).trans H34.out
    have y33 : w'.cell? ⟨W.heap.size + 1, 33, none⟩ = some (.int .i64 z) := (z1.cell 33).trans H33.out
    have n0 : w'.cell? ⟨w1.heap.size, 0, none⟩ = some (.int .i64 pl) := z2.cell 0
    have n1 : w'.cell? ⟨w1.heap.size, 1, none⟩ = some (.slice (some ⟨g3, 0, none⟩) ps.length cv) := z2.cell 1
    clear z1 z2
    go_simp
  simp only [Act.put, List.setIfInBounds_toArray, List.set_cons_zero, List.set_cons_succ]
  refine wpAnyH_take (i := 16) (oi := { dst := some 35, op := Op.load 3 (Operand.tmp 34), type := 3, pos := "weave.go:73", after := #[{ on := 15, ground := Ground.data }, { on := 10, ground := Ground.guard }], guard := some (10, false) }) (v := .int .i64 z) rfl (by kernel_rfl) (by kernel_rfl) (by kernel_rfl) (fun _ _ _ h => h) (Or.inl ⟨by rfl, ?_⟩) hHeld ?_
  · intro w' hSw
    obtain ⟨z1, z2, -⟩ := hSw
    have y34 : w'.cell? ⟨W.heap.size + 1, 34, none⟩ = some (.int .i64 L0) := (z1.cell 34).trans H34.out
    have y33 : w'.cell? ⟨W.heap.size + 1, 33, none⟩ = some (.int .i64 z) := (z1.cell 33).trans H33.out
    have n0 : w'.cell? ⟨w1.heap.size, 0, none⟩ = some (.int .i64 pl) := z2.cell 0
    have n1 : w'.cell? ⟨w1.heap.size, 1, none⟩ = some (.slice (some ⟨g3, 0, none⟩) ps.length cv) := z2.cell 1
    clear z1 z2
    go_simp
  simp only [Act.put, List.setIfInBounds_toArray, List.set_cons_zero, List.set_cons_succ]
  refine wpAnyH_ready (rs := [12]) (by kernel_rfl) (by simp) (AllReadyH.cons rfl (fun K hK => ?_) AllReadyH.nil)
  go_simp
  refine (HSIZE.out _ HS0.out.2.2.1).mono ?_
  rintro e w4 ⟨rfl, hb4⟩
  dsimp only
  have HS1 := Lib.hid (HS0.out.below hbs hb4)
  refine hK.out _ _ HS1.out (fun hH1 => ?_)
  clear hK K hb4
  refine wpAnyH_take (i := 17) (oi := { dst := some 36, op := Op.binOp BinOp.neq 3 (Operand.tmp 31) (Operand.tmp 35) 3, type := 4, pos := "weave.go:73", after := #[{ on := 12, ground := Ground.data }, { on := 16, ground := Ground.data }, { on := 10, ground := Ground.guard }], guard := some (10, false) }) (v := .bool false) rfl (by kernel_rfl) (by kernel_rfl) (by kernel_rfl) (fun _ _ _ h => h) (Or.inl ⟨by rfl, ?_⟩) hH1 ?_
  · intro w' hSw
    obtain ⟨z1, z2, -⟩ := hSw
    have y34 : w'.cell? ⟨W.heap.size + 1, 34, none⟩ = some (.int .i64 L0) := (z1.cell 34).trans H34.out
    have y33 : w'.cell? ⟨W.heap.size + 1, 33, none⟩ = some (.int .i64 z) := (z1.cell 33).trans H33.out
    have n0 : w'.cell? ⟨w1.heap.size, 0, none⟩ = some (.int .i64 pl) := z2.cell 0
    have n1 : w'.cell? ⟨w1.heap.size, 1, none⟩ = some (.slice (some ⟨g3, 0, none⟩) ps.length cv) := z2.cell 1
    clear z1 z2
    go_simp
  simp only [Act.put, List.setIfInBounds_toArray, List.set_cons_zero, List.set_cons_succ]
  refine wpAnyH_take (i := 18) (oi := { dst := some 37, op := Op.pick (Operand.tmp 29) (Operand.const (Value.bool true)) (Operand.tmp 36), type := 4, pos := "weave.go:73", after := #[{ on := 10, ground := Ground.data }, { on := 17, ground := Ground.data }], guard := none }) (v := .bool false) rfl (by kernel_rfl) (by kernel_rfl) (by kernel_rfl) (fun _ _ _ h => h) (Or.inl ⟨by rfl, ?_⟩) hH1 ?_
  · intro w' hSw
    obtain ⟨z1, z2, -⟩ := hSw
    have y34 : w'.cell? ⟨W.heap.size + 1, 34, none⟩ = some (.int .i64 L0) := (z1.cell 34).trans H34.out
    have y33 : w'.cell? ⟨W.heap.size + 1, 33, none⟩ = some (.int .i64 z) := (z1.cell 33).trans H33.out
    have n0 : w'.cell? ⟨w1.heap.size, 0, none⟩ = some (.int .i64 pl) := z2.cell 0
    have n1 : w'.cell? ⟨w1.heap.size, 1, none⟩ = some (.slice (some ⟨g3, 0, none⟩) ps.length cv) := z2.cell 1
    clear z1 z2
    go_simp
  simp only [Act.put, List.setIfInBounds_toArray, List.set_cons_zero, List.set_cons_succ]
  refine wpAnyH_done (by kernel_rfl) ?_ _
  have HSE := Lib.hid HS1.out
  clear hHeld hH1 HS0 HS1 HGN
  refine hKz _ _ ?_
-- END1
  have c3 : w4.cell? ⟨W.heap.size, 0, none⟩ = some (ptr wb) := HSE.out.2.2.2.1.1.cell 0
  have HAR := Lib.hid (arrive_any w4 wb base g cap vt _ rest out got hgot hl HSE.out.2.2.2.2.1)
  gi_wp2_with fail
  refine ⟨trivial, ?_⟩
  refine ((callsIn_wide (n := _)).2 HAR.out).mono ?_
  rintro e w5 ⟨rfl, hw5, hg5⟩
  have HW5 := Lib.hid hw5
  have hz4 : W.heap.size + 1 + 1 ≤ w4.heap.size := HSE.out.1.lt
  have HM3 := Lib.hid (HSE.out.2.2.2.1.1.grown hg5 (fun e => by injection e with e; omega))
  have HM7 := Lib.hid (HSE.out.2.1.grown hg5 (fun e => by injection e with e; have := hz1; omega))
  have HRP := Lib.hid (HSE.out.2.2.2.1.2.of_block (fun b hb => hg5.block b (HSE.out.2.2.2.1.2.lt b hb).1 (fun e => by injection e with e; have := (HSE.out.2.2.2.1.2.lt b hb).2; omega)))
  have HF5 := Lib.hid (HSE.out.2.2.2.2.2.grown hbs hg5 (fun r hr => by injection hr with hr; subst hr; exact ⟨hw5.2.1, .inl rfl⟩))
  have n1 : w5.cell? ⟨w1.heap.size, 1, none⟩ = some (.slice (some ⟨g3, 0, none⟩) ps.length cv) := HM7.out.cell 1
  have HBW := Lib.hid (bwd_any (some ⟨g3, 0, none⟩) ps.length cv w5)
  clear hw5 hg5 HAR c3 HSE
  gi_wp2_with fail
  refine ⟨trivial, ?_⟩
  refine ((callsIn_wide (n := _)).2 HBW.out).mono ?_
  rintro e w6 ⟨rfl, hm6, hb6, hz6⟩
  have HNI := Lib.hid (show NI W wb base g cap w1.heap.size w5.heap.size vt pl (.slice (some ⟨g3, 0, none⟩) ps.length cv) ps rest out got [] w6 from
    ⟨⟨.slice (some ⟨g, 0, none⟩) rest.length cap, by simpa using HW5.out.below hb6, fun r hr => by injection hr with hr; exact .inl hr.symm⟩, HM3.out.below hb6 HM3.out.lt, HM7.out.below hb6 HM7.out.lt, hm6, HRP.out.below hb6, HF5.out.below hbs hb6⟩)
  have HSQ := Lib.hid (bwd1_seq 2 w5.heap.size g3 0 cv ps w6 hm6 ⟨hn32, HNI.out.2.2.2.2.1.rd⟩ (by omega))
  have hg3 : g3 < w6.heap.size := (HNI.out.2.2.2.2.1.lt g3 rfl).1
  have hz0 : W.heap.size ≤ w6.heap.size := HNI.out.2.2.2.2.2.bel.size
  have HX32 := Lib.hid (show ∀ x ∈ bws ps, x.2.1.length = 32 from fun x hx => hn32 _ (by
    have h1 : x.2 ∈ (bws ps).map (·.2) := List.mem_map.2 ⟨x, hx, rfl⟩
    rw [bws_snd] at h1
    exact List.mem_reverse.1 h1))
  have SZP := Lib.hid (fun (p : Pt) h => sz_pt p h)
  clear n1 HBW hm6 hb6 hz6 HW5 HM3 HM7 HRP HF5 hz4
  gi_wp2_with fail
  refine range_by2 rfl (by omega) (gf := 83) (lb := #[ptr w5.heap.size]) rfl trivial (enters_of Tryd.func83 (by kernel_rfl) rfl) HSQ.out
    (fun A B h => ⟨h.size, fun k o _ hk _ => (h.block k (Array.getElem?_eq_some_iff.1 hk).1).trans hk⟩) (fun A B C h h' => ⟨fun cs t fr ho => h'.1 _ _ _ (h.1 _ _ _ ho), h'.2.trans h.2⟩) (fun W' l o o' hl h1 h2 => ⟨fun cs t fr hb => (World.putObj_heap_other (fun e => by subst e; rw [h1] at hb; cases hb; cases h2)).trans hb, World.putObj_heap_other (fun e => by subst e; omega)⟩) (fun _ => rfl) (NI W wb base g cap w1.heap.size w5.heap.size vt pl (.slice (some ⟨g3, 0, none⟩) ps.length cv) ps rest out got) (fun _ _ _ => False)
    (NI.own hbs hz0) (fun pre A B hi hst => hi.below hbs hst) (fun _ _ _ _ _ hs _ _ => hs) HNI.out
    (fun x b => { tmps := #[ptr wb, .agg P0.toArray, .string (str t), .pointer (some ⟨W.heap.size, 0, none⟩), .pointer (some ⟨W.heap.size + 1, 0, none⟩), undef, .int .i64 0, .pointer (some ⟨w1.heap.size, 0, none⟩), .int .i64 0, undef, .pointer (some ⟨b, 0, none⟩), .tuple #[.agg #[.int .i64 pl, .slice (some ⟨g3, 0, none⟩) ps.length cv], .int .i64 0], .string (str t), .tuple #[.agg #[.int .i64 pl, .slice (some ⟨g3, 0, none⟩) ps.length cv], .int .i64 0], .agg #[.int .i64 pl, .slice (some ⟨g3, 0, none⟩) ps.length cv], .int .i64 0, .int .i64 0, .bool false, undef, .pointer (some ⟨W.heap.size + 1, 34, none⟩), .int .i64 L0, .bool true, .bool true, .pointer (some ⟨w1.heap.size, 0, none⟩), .int .i64 pl, .pointer (some ⟨W.heap.size + 1, 34, none⟩), .int .i64 L0, .bool false, .bool false, .bool false, .agg #[.int .i64 pl, .slice (some ⟨g3, 0, none⟩) ps.length cv], .int .i64 (sumP ps), .pointer (some ⟨W.heap.size + 1, 0, none⟩), .pointer (some ⟨W.heap.size + 1, 1, none⟩), .pointer (some ⟨W.heap.size + 1, 33, none⟩), .int .i64 z, .bool false, .bool false, ptr wb, .tuple #[], .pointer (some ⟨w1.heap.size, 1, none⟩), .slice (some ⟨g3, 0, none⟩) ps.length cv, .func (.func 83) #[] #[ptr w5.heap.size], .int .i64 (x.1 : Int), .agg (ptC x.2).toArray, undef, undef, undef, undef, undef, undef, undef, undef, undef, undef, undef, undef, undef], defers := [] }) (fun pre x b W' => NI W wb base g cap w1.heap.size w5.heap.size vt pl (.slice (some ⟨g3, 0, none⟩) ps.length cv) ps rest out got pre W' ∧ Mem W' b Tpt (ptC x.2))
    (fun pre x b => by
      rintro s A B row ⟨h1, h2⟩ hg hr
      exact ⟨NI.own hbs hz0 pre A B row h1 hg hr, cells_kept hg (fun r e => (hr r e).2) _ _ _ _ h2⟩) (fun pre A B h hb => h.kp hb) ?assign ?body ?done ?stop
  case assign =>
    intro l pre x W' K hI hpre hK
    have hx32 := HX32.out x (hpre.subset (by simp))
    have HSZ := Lib.hid (sz_pt x.2 hx32)
    have ONE := Lib.hid (one_ptC x.2)
    have HZ := Lib.hid (show (List.replicate 32 (byteV 0) ++ [Value.int .i64 0]).length = (ptC x.2).length by rw [length_ptC x.2 hx32]; rfl)
    have HI := Lib.hid hI
    have HK := Lib.hid hK
    clear hI hK hx32
    refine regionL_of (by kernel_rfl) (by rintro ⟨_, _, h⟩; exact h) ?_
    go_wp2_with (first
      | (refine wp_store_gen (B := W'.heap.size) (w0 := W') (belowSelf W' _) (Nat.le_refl _) (Mem.newAt W' Tpt (List.replicate 32 (byteV 0) ++ [.int .i64 0]) rfl) (ptC x.2) Tpt (.tmp 10) (.tmp 44) rfl rfl rfl rfl HSZ.out HZ.out ONE.out ?_
         intro W3 hm3 hb3 hz3 hk3
         have HM3 := Lib.hid hm3
         have HB3 := Lib.hid hb3
         clear hm3 hb3 hz3 hk3)
      | fail)
    exact HK.out _ HB3.out ⟨HI.out.below hbs HB3.out, HM3.out⟩
  case body =>
    rintro l pre ⟨i, p⟩ b W' ⟨hNI, hMb⟩ hpre
    have hx32 : p.1.length = 32 := HX32.out (i, p) (hpre.subset (by simp))
    have HNI1 := Lib.hid hNI
    obtain ⟨⟨vp, hwv, hrow⟩, h3, h4, h5, h6, h7⟩ := hNI
    obtain ⟨lf, hlf⟩ : ∃ l, l = (pre.map fun x : Nat × Pt => (x.2, pl - 1)).reverse ++ rest := ⟨_, rfl⟩
    have hpl9 : lf.length ≤ 2000000 := by
      have h1 := hpre.length_le
      rw [length_bws] at h1
      rw [hlf]
      simp at h1 ⊢
      omega
    rw [← hlf] at hwv
    have HLF := Lib.hid hlf
    obtain ⟨va, vc, hvv, -⟩ := hwv.form
    simp only at hvv
    subst hvv
    have HWV := Lib.hid hwv
    have HROW := Lib.hid hrow
    have H3 := Lib.hid h3
    have H4 := Lib.hid h4
    have H5 := Lib.hid h5
    have H6 := Lib.hid h6
    have H7 := Lib.hid h7
    have SZX := Lib.hid (sz_pt p hx32)
    have HBL := Lib.hid (fun W => below_any q hq1.1 hq1.2 p hx32 W)
    rw [← HQ.out] at HBL
    have HBS := Lib.hid (show ∀ W, (Instr.buildSlice Tspd 1 #[(0, .agg (pdC (p, pl - 1)).toArray)]).run Tryd.prog W = .ok (.slice (some ⟨W.heap.size, 0, none⟩) 1 1) (W.alloc (.cells (pdC (p, pl - 1)).toArray Tpd)) from fun W => run_bslice_pd (kindS (p, pl - 1)) p (max (pl - 1) 0) hx32 W)
    have HL35 := Lib.hid (show (pdC (p, pl - 1)).length = 35 from length_pdC3 _ p _ hx32)
    have HONE := Lib.hid (show ∀ u ∈ pdC (p, pl - 1), u.oneCell' = true from one_pdC3 _ p _)
    have HLK := Lib.hid (show (lf.reverse.map pdC).length ≤ 900000000 by rw [List.length_map, List.length_reverse]; omega)
    obtain ⟨ip, hio, hiz, hisz, hiby⟩ : ∃ i, Tryd.prog.info? Tpd = some i ∧ i.zero = some (.agg zPd.toArray) ∧ i.size = 35 ∧ i.bytes = 56 := info_of (by kernel_rfl)
    have HJO := Lib.hid hio
    have HJZ := Lib.hid hiz
    have HJSZ := Lib.hid hisz
    have HJBY := Lib.hid hiby
    have hS0 : Mem W'.drew W.heap.size Tpw [ptr wb] ∧ Mem W'.drew w1.heap.size Tnd [.int .i64 pl, .slice (some ⟨g3, 0, none⟩) ps.length cv] ∧ Mem W'.drew b Tpt (ptC p) := ⟨h3.drew, h4.drew, hMb.drew⟩
    have hbw : W.heap.size ≤ W'.heap.size := h7.bel.size
    have c0 : W'.drew.cell? ⟨wb, 0, none⟩ = some (.slice va lf.length vc) := hwv.1.drew.cell 0
    clear hwv hrow h3 h4 h5 h6 h7 hMb hpre hlf hio hiz hisz hiby HNI HSQ
    refine wpIn_block ?_
    refine region_held_of (S := fun w2 => Mem w2 W.heap.size Tpw [ptr wb] ∧ Mem w2 w1.heap.size Tnd [.int .i64 pl, .slice (some ⟨g3, 0, none⟩) ps.length cv] ∧ Mem w2 b Tpt (ptC p)) (by kernel_rfl) (by rintro ⟨_, _, h⟩; exact h) (by kernel_rfl) hS0 (fun hHeld => ?_)
-- BEGIN2
    refine wpAnyH_take (i := 0) (oi := { dst := some 45, op := Op.load 63 (Operand.tmp 3), type := 63, pos := "weave.go:78", after := #[], guard := none }) (v := .pointer (some ⟨wb, 0, none⟩)) rfl (by kernel_rfl) (by kernel_rfl) (by kernel_rfl) (fun _ _ _ h => h) (Or.inl ⟨by rfl, ?_⟩) hHeld ?_
    · intro w' hSw
      obtain ⟨z1, z2, -⟩ := hSw
      have y0 : w'.cell? ⟨W.heap.size, 0, none⟩ = some (.pointer (some ⟨wb, 0, none⟩)) := z1.cell 0
      have y1 : w'.cell? ⟨w1.heap.size, 0, none⟩ = some (.int .i64 pl) := z2.cell 0
      clear z1 z2
      go_simp
    simp only [Act.put, List.setIfInBounds_toArray, List.set_cons_zero, List.set_cons_succ]
    refine wpAnyH_take (i := 1) (oi := { dst := some 46, op := Op.load 63 (Operand.tmp 3), type := 63, pos := "weave.go:78", after := #[], guard := none }) (v := .pointer (some ⟨wb, 0, none⟩)) rfl (by kernel_rfl) (by kernel_rfl) (by kernel_rfl) (fun _ _ _ h => h) (Or.inl ⟨by rfl, ?_⟩) hHeld ?_
    · intro w' hSw
      obtain ⟨z1, z2, -⟩ := hSw
      have y0 : w'.cell? ⟨W.heap.size, 0, none⟩ = some (.pointer (some ⟨wb, 0, none⟩)) := z1.cell 0
      have y1 : w'.cell? ⟨w1.heap.size, 0, none⟩ = some (.int .i64 pl) := z2.cell 0
      clear z1 z2
      go_simp
    simp only [Act.put, List.setIfInBounds_toArray, List.set_cons_zero, List.set_cons_succ]
    refine wpAnyH_take (i := 2) (oi := { dst := some 47, op := Op.nilCheck (Operand.tmp 46), type := 0, pos := "weave.go:78", after := #[{ on := 1, ground := Ground.data }], guard := none }) (v := .pointer (some ⟨wb, 0, none⟩)) rfl (by kernel_rfl) (by kernel_rfl) (by kernel_rfl) (fun _ _ _ h => h) (Or.inl ⟨by rfl, ?_⟩) hHeld ?_
    · intro w' hSw
      obtain ⟨z1, z2, -⟩ := hSw
      have y0 : w'.cell? ⟨W.heap.size, 0, none⟩ = some (.pointer (some ⟨wb, 0, none⟩)) := z1.cell 0
      have y1 : w'.cell? ⟨w1.heap.size, 0, none⟩ = some (.int .i64 pl) := z2.cell 0
      clear z1 z2
      go_simp
    simp only [Act.put, List.setIfInBounds_toArray, List.set_cons_zero, List.set_cons_succ]
    refine wpAnyH_take (i := 3) (oi := { dst := some 48, op := Op.fieldAddr 120 (Operand.tmp 47) 0, type := 0, pos := "weave.go:78", after := #[{ on := 2, ground := Ground.data }], guard := none }) (v := .pointer (some ⟨wb, 0, none⟩)) rfl (by kernel_rfl) (by kernel_rfl) (by kernel_rfl) (fun _ _ _ h => h) (Or.inl ⟨by rfl, ?_⟩) hHeld ?_
    · intro w' hSw
      obtain ⟨z1, z2, -⟩ := hSw
      have y0 : w'.cell? ⟨W.heap.size, 0, none⟩ = some (.pointer (some ⟨wb, 0, none⟩)) := z1.cell 0
      have y1 : w'.cell? ⟨w1.heap.size, 0, none⟩ = some (.int .i64 pl) := z2.cell 0
      clear z1 z2
      go_simp
    simp only [Act.put, List.setIfInBounds_toArray, List.set_cons_zero, List.set_cons_succ]
    refine wpAnyH_take (i := 5) (oi := { dst := some 50, op := Op.fieldAddr 25 (Operand.tmp 7) 0, type := 0, pos := "weave.go:78", after := #[], guard := none }) (v := .pointer (some ⟨w1.heap.size, 0, none⟩)) rfl (by kernel_rfl) (by kernel_rfl) (by kernel_rfl) (fun _ _ _ h => h) (Or.inl ⟨by rfl, ?_⟩) hHeld ?_
    · intro w' hSw
      obtain ⟨z1, z2, -⟩ := hSw
      have y0 : w'.cell? ⟨W.heap.size, 0, none⟩ = some (.pointer (some ⟨wb, 0, none⟩)) := z1.cell 0
      have y1 : w'.cell? ⟨w1.heap.size, 0, none⟩ = some (.int .i64 pl) := z2.cell 0
      clear z1 z2
      go_simp
    simp only [Act.put, List.setIfInBounds_toArray, List.set_cons_zero, List.set_cons_succ]
    refine wpAnyH_take (i := 6) (oi := { dst := some 51, op := Op.load 3 (Operand.tmp 50), type := 3, pos := "weave.go:78", after := #[{ on := 5, ground := Ground.data }], guard := none }) (v := .int .i64 pl) rfl (by kernel_rfl) (by kernel_rfl) (by kernel_rfl) (fun _ _ _ h => h) (Or.inl ⟨by rfl, ?_⟩) hHeld ?_
    · intro w' hSw
      obtain ⟨z1, z2, -⟩ := hSw
      have y0 : w'.cell? ⟨W.heap.size, 0, none⟩ = some (.pointer (some ⟨wb, 0, none⟩)) := z1.cell 0
      have y1 : w'.cell? ⟨w1.heap.size, 0, none⟩ = some (.int .i64 pl) := z2.cell 0
      clear z1 z2
      go_simp
    simp only [Act.put, List.setIfInBounds_toArray, List.set_cons_zero, List.set_cons_succ]
    refine wpAnyH_take (i := 7) (oi := { dst := some 52, op := Op.load 43 (Operand.tmp 10), type := 43, pos := "weave.go:78", after := #[], guard := none }) (v := _) rfl (by kernel_rfl) (by kernel_rfl) (by kernel_rfl) (fun _ _ _ h => h) (yieldsIf_load_mid (by rfl) Tpt (.tmp 10) rfl b (0) rfl (ptC p) (_) (fun w hS => fun j u hu => by have := (hS.2.2.cell j).trans hu; simpa using this) Tryd.underlying43 rfl SZX.out) hHeld ?_
    simp only [Act.put, List.setIfInBounds_toArray, List.set_cons_zero, List.set_cons_succ]
    refine wpAnyH_ready (rs := [4, 8]) (by kernel_rfl) (by simp) (AllReadyH.cons rfl (fun K hK => ?_) (AllReadyH.cons rfl (fun K hK => ?_) AllReadyH.nil))
    · go_simp
      refine hK.out _ _ hS0 (fun hHa => ?_)
      clear hK K
      refine wpAnyH_ready (rs := [8]) (by kernel_rfl) (by simp) (AllReadyH.cons rfl (fun K hK => ?_) AllReadyH.nil)
      go_simp
      refine (HBL.out _).mono ?_
      rintro e w7 ⟨rfl, hb7⟩
      dsimp only
      have HB7 := Lib.hid (belowThen (below_drewN (Below.refl W'.heap.size W') 1) hb7)
      have HS7 := Lib.hid (show (fun w2 => Mem w2 W.heap.size Tpw [ptr wb] ∧ Mem w2 w1.heap.size Tnd [.int .i64 pl, .slice (some ⟨g3, 0, none⟩) ps.length cv] ∧ Mem w2 b Tpt (ptC p)) w7 from ⟨hS0.1.below hb7 hS0.1.lt, hS0.2.1.below hb7 hS0.2.1.lt, hS0.2.2.below hb7 hS0.2.2.lt⟩)
      have c7 : w7.cell? ⟨wb, 0, none⟩ = some (.slice va lf.length vc) := (HWV.out.below HB7.out).1.cell 0
      refine hK.out _ _ HS7.out (fun hHb => ?_)
      clear hK K hb7
      refine wpAnyH_ready (rs := [9]) (by kernel_rfl) (by simp) (AllReadyH.cons rfl (fun K hK => ?_) AllReadyH.nil)
      refine step_bslice1 (HBS.out _) rfl rfl rfl ?_
      have HB8 := Lib.hid (belowThen HB7.out (belowSelf w7 (.cells (pdC (p, pl - 1)).toArray Tpd)))
      have HS8 := Lib.hid (show (fun w2 => Mem w2 W.heap.size Tpw [ptr wb] ∧ Mem w2 w1.heap.size Tnd [.int .i64 pl, .slice (some ⟨g3, 0, none⟩) ps.length cv] ∧ Mem w2 b Tpt (ptC p)) (w7.alloc (.cells (pdC (p, pl - 1)).toArray Tpd)) from ⟨HS7.out.1.alloc _, HS7.out.2.1.alloc _, HS7.out.2.2.alloc _⟩)
      have c8 : (w7.alloc (.cells (pdC (p, pl - 1)).toArray Tpd)).cell? ⟨wb, 0, none⟩ = some (.slice va lf.length vc) := (HWV.out.below HB8.out).1.cell 0
      refine hK.out _ _ HS8.out (fun hHc => ?_)
      clear hK K
      refine wpAnyH_ready (rs := [10]) (by kernel_rfl) (by simp) (AllReadyH.cons rfl (fun K hK => ?_) AllReadyH.nil)
      have HV8 := Lib.hid (HWV.out.below HB8.out)
      have hb8z : base ≤ (w7.alloc (.cells (pdC (p, pl - 1)).toArray Tpd)).heap.size := by have := HB8.out.size; omega
      refine step_append_row HV8.out.2.2.1 (pdC (p, pl - 1)) (by decide) HL35.out HONE.out (.tmp 49) (.tmp 54) Tspd ip _ 56 rfl rfl Tryd.underlying118 HJO.out HJZ.out HJSZ.out HJBY.out rfl (by decide) rfl rfl (fun j u hu => ((Mem.new w7 Tpd (pdC (p, pl - 1))).cell j).trans hu) HLK.out hb8z ?_
      intro v9 w9 hr9 hg9 hat9
      obtain ⟨a9, m9, p9, rfl⟩ := hr9.shape
      have HST := Lib.hid (NI.step (i := i) (p := p) (pre := pre) (out := out) (got := got) (vp := .slice va lf.length vc) hbs (by have := HB8.out.size; omega) (by rw [← HLF.out]; exact HV8.out) HROW.out (H3.out.below HB8.out H3.out.lt) (H4.out.below HB8.out H4.out.lt) (H5.out.below HB8.out H5.out.lt) (H6.out.below HB8.out) (H7.out.below hbs HB8.out) (by rw [← HLF.out]; exact hr9) hg9 hat9)
      have HKS := Lib.hid (keeps_step (N := w6.heap.size) (vp' := .slice a9 m9 p9) HV8.out hg9)
      have n3 := Mem.ne_own HV8.out HS8.out.1 (by decide) (by decide)
      have n4 := Mem.ne_own HV8.out HS8.out.2.1 (by decide) (by decide)
      have n5 := Mem.ne_own HV8.out HS8.out.2.2 (by decide) (by decide)
      have HS9 := Lib.hid (show (fun w2 => Mem w2 W.heap.size Tpw [ptr wb] ∧ Mem w2 w1.heap.size Tnd [.int .i64 pl, .slice (some ⟨g3, 0, none⟩) ps.length cv] ∧ Mem w2 b Tpt (ptC p)) w9 from ⟨HS8.out.1.grown hg9 (fun e => n3.2 e.symm), HS8.out.2.1.grown hg9 (fun e => n4.2 e.symm), HS8.out.2.2.grown hg9 (fun e => n5.2 e.symm)⟩)
      have nwb : (Value.slice va lf.length vc).ownBlock ≠ some wb := fun e => (HV8.out.row_ne wb e).1 rfl
      have HM9 := Lib.hid (show Mem w9 wb Twv _ from HV8.out.1.grown hg9 (fun e => nwb e.symm))
      have c9 : w9.cell? ⟨wb, 0, none⟩ = some (.slice va lf.length vc) := HM9.out.cell 0
      have f9 : w9.frozen? ⟨wb, 0, none⟩ = false := HM9.out.frozen 0
      refine hK.out _ _ HS9.out (fun hHd => ?_)
      clear hK K hr9 hat9
      refine wpAnyH_take (i := 11) (oi := { dst := some 56, op := Op.nilCheck (Operand.tmp 45), type := 0, pos := "weave.go:78", after := #[{ on := 0, ground := Ground.data }, { on := 0, ground := Ground.phase }, { on := 1, ground := Ground.phase }, { on := 2, ground := Ground.phase }, { on := 3, ground := Ground.phase }, { on := 4, ground := Ground.phase }, { on := 5, ground := Ground.phase }, { on := 6, ground := Ground.phase }, { on := 7, ground := Ground.phase }, { on := 8, ground := Ground.phase }, { on := 9, ground := Ground.phase }, { on := 10, ground := Ground.phase }], guard := none }) (v := .pointer (some ⟨wb, 0, none⟩)) rfl (by kernel_rfl) (by kernel_rfl) (by kernel_rfl) (fun _ _ _ h => h) (Or.inl ⟨by rfl, ?_⟩) hHd ?_
      · intro w' hSw
        obtain ⟨z1, z2, -⟩ := hSw
        have y0 : w'.cell? ⟨W.heap.size, 0, none⟩ = some (.pointer (some ⟨wb, 0, none⟩)) := z1.cell 0
        have y1 : w'.cell? ⟨w1.heap.size, 0, none⟩ = some (.int .i64 pl) := z2.cell 0
        clear z1 z2
        go_simp
      simp only [Act.put, List.setIfInBounds_toArray]
      refine wpAnyH_take (i := 12) (oi := { dst := some 57, op := Op.fieldAddr 120 (Operand.tmp 56) 0, type := 0, pos := "weave.go:78", after := #[{ on := 11, ground := Ground.data }, { on := 0, ground := Ground.phase }, { on := 1, ground := Ground.phase }, { on := 2, ground := Ground.phase }, { on := 3, ground := Ground.phase }, { on := 4, ground := Ground.phase }, { on := 5, ground := Ground.phase }, { on := 6, ground := Ground.phase }, { on := 7, ground := Ground.phase }, { on := 8, ground := Ground.phase }, { on := 9, ground := Ground.phase }, { on := 10, ground := Ground.phase }], guard := none }) (v := .pointer (some ⟨wb, 0, none⟩)) rfl (by kernel_rfl) (by kernel_rfl) (by kernel_rfl) (fun _ _ _ h => h) (Or.inl ⟨by rfl, ?_⟩) hHd ?_
      · intro w' hSw
        obtain ⟨z1, z2, -⟩ := hSw
        have y0 : w'.cell? ⟨W.heap.size, 0, none⟩ = some (.pointer (some ⟨wb, 0, none⟩)) := z1.cell 0
        have y1 : w'.cell? ⟨w1.heap.size, 0, none⟩ = some (.int .i64 pl) := z2.cell 0
        clear z1 z2
        go_simp
      simp only [Act.put]
      refine wpAnyH_ready (rs := [13]) (by kernel_rfl) (by simp) (AllReadyH.cons rfl (fun K hK => ?_) AllReadyH.nil)
      go_simp
      refine hK.out _ _ ⟨HS9.out.1.other (p := ⟨wb, 0, none⟩) (by simpa using n3.1) _, HS9.out.2.1.other (p := ⟨wb, 0, none⟩) (by simpa using n4.1) _, HS9.out.2.2.other (p := ⟨wb, 0, none⟩) (by simpa using n5.1) _⟩ (fun hHe => ?_)
      clear hK K
      refine wpAnyH_done (by kernel_rfl) ?_ _
      have hkp := HNI1.out.kp HB8.out
      exact ⟨⟨Nat.le_trans HB8.out.size HKS.out.size, fun k o hk ho hc => HKS.out.same k o hk ((HB8.out.block k (Array.getElem?_eq_some_iff.1 ho).1).trans ho) hc⟩, ⟨fun cs t fr ho => HST.out.2.1 _ _ _ (hkp.1 _ _ _ ho), HST.out.2.2.trans hkp.2⟩, HST.out.1⟩
    · go_simp
      refine (HBL.out _).mono ?_
      rintro e w7 ⟨rfl, hb7⟩
      dsimp only
      have HB7 := Lib.hid (belowThen (below_drewN (Below.refl W'.heap.size W') 1) hb7)
      have HS7 := Lib.hid (show (fun w2 => Mem w2 W.heap.size Tpw [ptr wb] ∧ Mem w2 w1.heap.size Tnd [.int .i64 pl, .slice (some ⟨g3, 0, none⟩) ps.length cv] ∧ Mem w2 b Tpt (ptC p)) w7 from ⟨hS0.1.below hb7 hS0.1.lt, hS0.2.1.below hb7 hS0.2.1.lt, hS0.2.2.below hb7 hS0.2.2.lt⟩)
      have c7 : w7.cell? ⟨wb, 0, none⟩ = some (.slice va lf.length vc) := (HWV.out.below HB7.out).1.cell 0
      refine hK.out _ _ HS7.out (fun hHb => ?_)
      clear hK K hb7
      refine wpAnyH_ready (rs := [4, 9]) (by kernel_rfl) (by simp) (AllReadyH.cons rfl (fun K hK => ?_) (AllReadyH.cons rfl (fun K hK => ?_) AllReadyH.nil))
      · go_simp
        refine hK.out _ _ HS7.out (fun hHa => ?_)
        clear hK K
        refine wpAnyH_ready (rs := [9]) (by kernel_rfl) (by simp) (AllReadyH.cons rfl (fun K hK => ?_) AllReadyH.nil)
        refine step_bslice1 (HBS.out _) rfl rfl rfl ?_
        have HB8 := Lib.hid (belowThen HB7.out (belowSelf w7 (.cells (pdC (p, pl - 1)).toArray Tpd)))
        have HS8 := Lib.hid (show (fun w2 => Mem w2 W.heap.size Tpw [ptr wb] ∧ Mem w2 w1.heap.size Tnd [.int .i64 pl, .slice (some ⟨g3, 0, none⟩) ps.length cv] ∧ Mem w2 b Tpt (ptC p)) (w7.alloc (.cells (pdC (p, pl - 1)).toArray Tpd)) from ⟨HS7.out.1.alloc _, HS7.out.2.1.alloc _, HS7.out.2.2.alloc _⟩)
        have c8 : (w7.alloc (.cells (pdC (p, pl - 1)).toArray Tpd)).cell? ⟨wb, 0, none⟩ = some (.slice va lf.length vc) := (HWV.out.below HB8.out).1.cell 0
        refine hK.out _ _ HS8.out (fun hHc => ?_)
        clear hK K
        refine wpAnyH_ready (rs := [10]) (by kernel_rfl) (by simp) (AllReadyH.cons rfl (fun K hK => ?_) AllReadyH.nil)
        have HV8 := Lib.hid (HWV.out.below HB8.out)
        have hb8z : base ≤ (w7.alloc (.cells (pdC (p, pl - 1)).toArray Tpd)).heap.size := by have := HB8.out.size; omega
        refine step_append_row HV8.out.2.2.1 (pdC (p, pl - 1)) (by decide) HL35.out HONE.out (.tmp 49) (.tmp 54) Tspd ip _ 56 rfl rfl Tryd.underlying118 HJO.out HJZ.out HJSZ.out HJBY.out rfl (by decide) rfl rfl (fun j u hu => ((Mem.new w7 Tpd (pdC (p, pl - 1))).cell j).trans hu) HLK.out hb8z ?_
        intro v9 w9 hr9 hg9 hat9
        obtain ⟨a9, m9, p9, rfl⟩ := hr9.shape
        have HST := Lib.hid (NI.step (i := i) (p := p) (pre := pre) (out := out) (got := got) (vp := .slice va lf.length vc) hbs (by have := HB8.out.size; omega) (by rw [← HLF.out]; exact HV8.out) HROW.out (H3.out.below HB8.out H3.out.lt) (H4.out.below HB8.out H4.out.lt) (H5.out.below HB8.out H5.out.lt) (H6.out.below HB8.out) (H7.out.below hbs HB8.out) (by rw [← HLF.out]; exact hr9) hg9 hat9)
        have HKS := Lib.hid (keeps_step (N := w6.heap.size) (vp' := .slice a9 m9 p9) HV8.out hg9)
        have n3 := Mem.ne_own HV8.out HS8.out.1 (by decide) (by decide)
        have n4 := Mem.ne_own HV8.out HS8.out.2.1 (by decide) (by decide)
        have n5 := Mem.ne_own HV8.out HS8.out.2.2 (by decide) (by decide)
        have HS9 := Lib.hid (show (fun w2 => Mem w2 W.heap.size Tpw [ptr wb] ∧ Mem w2 w1.heap.size Tnd [.int .i64 pl, .slice (some ⟨g3, 0, none⟩) ps.length cv] ∧ Mem w2 b Tpt (ptC p)) w9 from ⟨HS8.out.1.grown hg9 (fun e => n3.2 e.symm), HS8.out.2.1.grown hg9 (fun e => n4.2 e.symm), HS8.out.2.2.grown hg9 (fun e => n5.2 e.symm)⟩)
        have nwb : (Value.slice va lf.length vc).ownBlock ≠ some wb := fun e => (HV8.out.row_ne wb e).1 rfl
        have HM9 := Lib.hid (show Mem w9 wb Twv _ from HV8.out.1.grown hg9 (fun e => nwb e.symm))
        have c9 : w9.cell? ⟨wb, 0, none⟩ = some (.slice va lf.length vc) := HM9.out.cell 0
        have f9 : w9.frozen? ⟨wb, 0, none⟩ = false := HM9.out.frozen 0
        refine hK.out _ _ HS9.out (fun hHd => ?_)
        clear hK K hr9 hat9
        refine wpAnyH_take (i := 11) (oi := { dst := some 56, op := Op.nilCheck (Operand.tmp 45), type := 0, pos := "weave.go:78", after := #[{ on := 0, ground := Ground.data }, { on := 0, ground := Ground.phase }, { on := 1, ground := Ground.phase }, { on := 2, ground := Ground.phase }, { on := 3, ground := Ground.phase }, { on := 4, ground := Ground.phase }, { on := 5, ground := Ground.phase }, { on := 6, ground := Ground.phase }, { on := 7, ground := Ground.phase }, { on := 8, ground := Ground.phase }, { on := 9, ground := Ground.phase }, { on := 10, ground := Ground.phase }], guard := none }) (v := .pointer (some ⟨wb, 0, none⟩)) rfl (by kernel_rfl) (by kernel_rfl) (by kernel_rfl) (fun _ _ _ h => h) (Or.inl ⟨by rfl, ?_⟩) hHd ?_
        · intro w' hSw
          obtain ⟨z1, z2, -⟩ := hSw
          have y0 : w'.cell? ⟨W.heap.size, 0, none⟩ = some (.pointer (some ⟨wb, 0, none⟩)) := z1.cell 0
          have y1 : w'.cell? ⟨w1.heap.size, 0, none⟩ = some (.int .i64 pl) := z2.cell 0
          clear z1 z2
          go_simp
        simp only [Act.put, List.setIfInBounds_toArray]
        refine wpAnyH_take (i := 12) (oi := { dst := some 57, op := Op.fieldAddr 120 (Operand.tmp 56) 0, type := 0, pos := "weave.go:78", after := #[{ on := 11, ground := Ground.data }, { on := 0, ground := Ground.phase }, { on := 1, ground := Ground.phase }, { on := 2, ground := Ground.phase }, { on := 3, ground := Ground.phase }, { on := 4, ground := Ground.phase }, { on := 5, ground := Ground.phase }, { on := 6, ground := Ground.phase }, { on := 7, ground := Ground.phase }, { on := 8, ground := Ground.phase }, { on := 9, ground := Ground.phase }, { on := 10, ground := Ground.phase }], guard := none }) (v := .pointer (some ⟨wb, 0, none⟩)) rfl (by kernel_rfl) (by kernel_rfl) (by kernel_rfl) (fun _ _ _ h => h) (Or.inl ⟨by rfl, ?_⟩) hHd ?_
        · intro w' hSw
          obtain ⟨z1, z2, -⟩ := hSw
          have y0 : w'.cell? ⟨W.heap.size, 0, none⟩ = some (.pointer (some ⟨wb, 0, none⟩)) := z1.cell 0
          have y1 : w'.cell? ⟨w1.heap.size, 0, none⟩ = some (.int .i64 pl) := z2.cell 0
          clear z1 z2
          go_simp
        simp only [Act.put]
        refine wpAnyH_ready (rs := [13]) (by kernel_rfl) (by simp) (AllReadyH.cons rfl (fun K hK => ?_) AllReadyH.nil)
        go_simp
        refine hK.out _ _ ⟨HS9.out.1.other (p := ⟨wb, 0, none⟩) (by simpa using n3.1) _, HS9.out.2.1.other (p := ⟨wb, 0, none⟩) (by simpa using n4.1) _, HS9.out.2.2.other (p := ⟨wb, 0, none⟩) (by simpa using n5.1) _⟩ (fun hHe => ?_)
        clear hK K
        refine wpAnyH_done (by kernel_rfl) ?_ _
        have hkp := HNI1.out.kp HB8.out
        exact ⟨⟨Nat.le_trans HB8.out.size HKS.out.size, fun k o hk ho hc => HKS.out.same k o hk ((HB8.out.block k (Array.getElem?_eq_some_iff.1 ho).1).trans ho) hc⟩, ⟨fun cs t fr ho => HST.out.2.1 _ _ _ (hkp.1 _ _ _ ho), HST.out.2.2.trans hkp.2⟩, HST.out.1⟩
      · refine step_bslice1 (HBS.out _) rfl rfl rfl ?_
        have HB8 := Lib.hid (belowThen HB7.out (belowSelf w7 (.cells (pdC (p, pl - 1)).toArray Tpd)))
        have HS8 := Lib.hid (show (fun w2 => Mem w2 W.heap.size Tpw [ptr wb] ∧ Mem w2 w1.heap.size Tnd [.int .i64 pl, .slice (some ⟨g3, 0, none⟩) ps.length cv] ∧ Mem w2 b Tpt (ptC p)) (w7.alloc (.cells (pdC (p, pl - 1)).toArray Tpd)) from ⟨HS7.out.1.alloc _, HS7.out.2.1.alloc _, HS7.out.2.2.alloc _⟩)
        have c8 : (w7.alloc (.cells (pdC (p, pl - 1)).toArray Tpd)).cell? ⟨wb, 0, none⟩ = some (.slice va lf.length vc) := (HWV.out.below HB8.out).1.cell 0
        refine hK.out _ _ HS8.out (fun hHc => ?_)
        clear hK K
        refine wpAnyH_ready (rs := [4]) (by kernel_rfl) (by simp) (AllReadyH.cons rfl (fun K hK => ?_) AllReadyH.nil)
        go_simp
        refine hK.out _ _ HS8.out (fun hHa => ?_)
        clear hK K
        refine wpAnyH_ready (rs := [10]) (by kernel_rfl) (by simp) (AllReadyH.cons rfl (fun K hK => ?_) AllReadyH.nil)
        have HV8 := Lib.hid (HWV.out.below HB8.out)
        have hb8z : base ≤ (w7.alloc (.cells (pdC (p, pl - 1)).toArray Tpd)).heap.size := by have := HB8.out.size; omega
        refine step_append_row HV8.out.2.2.1 (pdC (p, pl - 1)) (by decide) HL35.out HONE.out (.tmp 49) (.tmp 54) Tspd ip _ 56 rfl rfl Tryd.underlying118 HJO.out HJZ.out HJSZ.out HJBY.out rfl (by decide) rfl rfl (fun j u hu => ((Mem.new w7 Tpd (pdC (p, pl - 1))).cell j).trans hu) HLK.out hb8z ?_
        intro v9 w9 hr9 hg9 hat9
        obtain ⟨a9, m9, p9, rfl⟩ := hr9.shape
        have HST := Lib.hid (NI.step (i := i) (p := p) (pre := pre) (out := out) (got := got) (vp := .slice va lf.length vc) hbs (by have := HB8.out.size; omega) (by rw [← HLF.out]; exact HV8.out) HROW.out (H3.out.below HB8.out H3.out.lt) (H4.out.below HB8.out H4.out.lt) (H5.out.below HB8.out H5.out.lt) (H6.out.below HB8.out) (H7.out.below hbs HB8.out) (by rw [← HLF.out]; exact hr9) hg9 hat9)
        have HKS := Lib.hid (keeps_step (N := w6.heap.size) (vp' := .slice a9 m9 p9) HV8.out hg9)
        have n3 := Mem.ne_own HV8.out HS8.out.1 (by decide) (by decide)
        have n4 := Mem.ne_own HV8.out HS8.out.2.1 (by decide) (by decide)
        have n5 := Mem.ne_own HV8.out HS8.out.2.2 (by decide) (by decide)
        have HS9 := Lib.hid (show (fun w2 => Mem w2 W.heap.size Tpw [ptr wb] ∧ Mem w2 w1.heap.size Tnd [.int .i64 pl, .slice (some ⟨g3, 0, none⟩) ps.length cv] ∧ Mem w2 b Tpt (ptC p)) w9 from ⟨HS8.out.1.grown hg9 (fun e => n3.2 e.symm), HS8.out.2.1.grown hg9 (fun e => n4.2 e.symm), HS8.out.2.2.grown hg9 (fun e => n5.2 e.symm)⟩)
        have nwb : (Value.slice va lf.length vc).ownBlock ≠ some wb := fun e => (HV8.out.row_ne wb e).1 rfl
        have HM9 := Lib.hid (show Mem w9 wb Twv _ from HV8.out.1.grown hg9 (fun e => nwb e.symm))
        have c9 : w9.cell? ⟨wb, 0, none⟩ = some (.slice va lf.length vc) := HM9.out.cell 0
        have f9 : w9.frozen? ⟨wb, 0, none⟩ = false := HM9.out.frozen 0
        refine hK.out _ _ HS9.out (fun hHd => ?_)
        clear hK K hr9 hat9
        refine wpAnyH_take (i := 11) (oi := { dst := some 56, op := Op.nilCheck (Operand.tmp 45), type := 0, pos := "weave.go:78", after := #[{ on := 0, ground := Ground.data }, { on := 0, ground := Ground.phase }, { on := 1, ground := Ground.phase }, { on := 2, ground := Ground.phase }, { on := 3, ground := Ground.phase }, { on := 4, ground := Ground.phase }, { on := 5, ground := Ground.phase }, { on := 6, ground := Ground.phase }, { on := 7, ground := Ground.phase }, { on := 8, ground := Ground.phase }, { on := 9, ground := Ground.phase }, { on := 10, ground := Ground.phase }], guard := none }) (v := .pointer (some ⟨wb, 0, none⟩)) rfl (by kernel_rfl) (by kernel_rfl) (by kernel_rfl) (fun _ _ _ h => h) (Or.inl ⟨by rfl, ?_⟩) hHd ?_
        · intro w' hSw
          obtain ⟨z1, z2, -⟩ := hSw
          have y0 : w'.cell? ⟨W.heap.size, 0, none⟩ = some (.pointer (some ⟨wb, 0, none⟩)) := z1.cell 0
          have y1 : w'.cell? ⟨w1.heap.size, 0, none⟩ = some (.int .i64 pl) := z2.cell 0
          clear z1 z2
          go_simp
        simp only [Act.put, List.setIfInBounds_toArray]
        refine wpAnyH_take (i := 12) (oi := { dst := some 57, op := Op.fieldAddr 120 (Operand.tmp 56) 0, type := 0, pos := "weave.go:78", after := #[{ on := 11, ground := Ground.data }, { on := 0, ground := Ground.phase }, { on := 1, ground := Ground.phase }, { on := 2, ground := Ground.phase }, { on := 3, ground := Ground.phase }, { on := 4, ground := Ground.phase }, { on := 5, ground := Ground.phase }, { on := 6, ground := Ground.phase }, { on := 7, ground := Ground.phase }, { on := 8, ground := Ground.phase }, { on := 9, ground := Ground.phase }, { on := 10, ground := Ground.phase }], guard := none }) (v := .pointer (some ⟨wb, 0, none⟩)) rfl (by kernel_rfl) (by kernel_rfl) (by kernel_rfl) (fun _ _ _ h => h) (Or.inl ⟨by rfl, ?_⟩) hHd ?_
        · intro w' hSw
          obtain ⟨z1, z2, -⟩ := hSw
          have y0 : w'.cell? ⟨W.heap.size, 0, none⟩ = some (.pointer (some ⟨wb, 0, none⟩)) := z1.cell 0
          have y1 : w'.cell? ⟨w1.heap.size, 0, none⟩ = some (.int .i64 pl) := z2.cell 0
          clear z1 z2
          go_simp
        simp only [Act.put]
        refine wpAnyH_ready (rs := [13]) (by kernel_rfl) (by simp) (AllReadyH.cons rfl (fun K hK => ?_) AllReadyH.nil)
        go_simp
        refine hK.out _ _ ⟨HS9.out.1.other (p := ⟨wb, 0, none⟩) (by simpa using n3.1) _, HS9.out.2.1.other (p := ⟨wb, 0, none⟩) (by simpa using n4.1) _, HS9.out.2.2.other (p := ⟨wb, 0, none⟩) (by simpa using n5.1) _⟩ (fun hHe => ?_)
        clear hK K
        refine wpAnyH_done (by kernel_rfl) ?_ _
        have hkp := HNI1.out.kp HB8.out
        exact ⟨⟨Nat.le_trans HB8.out.size HKS.out.size, fun k o hk ho hc => HKS.out.same k o hk ((HB8.out.block k (Array.getElem?_eq_some_iff.1 ho).1).trans ho) hc⟩, ⟨fun cs t fr ho => HST.out.2.1 _ _ _ (hkp.1 _ _ _ ho), HST.out.2.2.trans hkp.2⟩, HST.out.1⟩
-- END2
  case done =>
    rintro D W' hD hI hK
    have HI := Lib.hid hI
    clear hI HNI HSQ
    gi_wp2
    refine ⟨by simp, .inl ⟨_, _, rfl, run_takeDeferred hK, ?_⟩⟩
    refine ⟨_, results_tmp rfl _ _ _, rfl, ?_⟩
    have hI2 := (NI.own hbs hz0).putObj (.deferred none) HI.out hD hK rfl
    obtain ⟨⟨vp, hwv, -⟩, -, -, -, -, hfr⟩ := hI2
    have e : ((bws ps).map fun x => (x.2, pl - 1)).reverse = ps.map fun p => (p, pl - 1) := by
      rw [show ((bws ps).map fun x => (x.2, pl - 1)) = ((bws ps).map (·.2)).map (fun p => (p, pl - 1)) from by rw [List.map_map]; rfl, bws_snd, ← List.map_reverse, List.reverse_reverse]
    rw [e] at hwv
    exact ⟨vp, hwv, hfr⟩
  case stop =>
    rintro D c pre W' _ _ h _
    exact h.elim
end Go.Proofs.YtjdhcanblpifcaaDoor
