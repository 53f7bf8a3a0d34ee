/-
  Package weave: giveNode where it refuses.
-/
import Derived.Test.YtjdhcanblpifcaaDoorWea5
import Derived.Test.YtjdhcanblpifcaaDoorMer4b
namespace Go.Proofs.YtjdhcanblpifcaaDoor
open Go.RowKit Crv
abbrev Tpw : TypeId := 63
theorem pd_lvl (s : Stp) (h : s.1.1.length = 32) : (pdC s)[34]? = some (.int .i64 (max s.2 0)) := by simp [pdC, pdC3, wtC, ptC, h]
/-- What giveNode reads: the pending object, the node, its parts, its weave. -/
def GN (W : World) (wb base : Nat) (vp vt : Value) (x : WSt) (P0 : List Value) (b7 : Nat) (pl : Int) (v : Value) (ps : List Pt) (w' : World) : Prop :=
  Mem w' (W.heap.size + 1) Tpd P0 ∧ Mem w' b7 Tnd [.int .i64 pl, v] ∧ Pts w' v ps ∧ (Mem w' W.heap.size Tpw [ptr wb] ∧ Rw w' (W.heap.size + 1 + 1) Tpt 33 v (ps.map ptC)) ∧ Wv w' wb base vp vt x ∧ Fr base wb vp vt W w'
theorem GN.below {W : World} {wb base : Nat} {vp vt : Value} {x : WSt} {P0 : List Value} {b7 : Nat} {pl : Int} {v : Value} {ps : List Pt} {A B : World} (h : GN W wb base vp vt x P0 b7 pl v ps A) (hbs : base ≤ W.heap.size) (hb : Below A.heap.size A B) : GN W wb base vp vt x P0 b7 pl v ps B :=
  ⟨h.1.below hb h.1.lt, h.2.1.below hb h.2.1.lt, h.2.2.1.below hb, ⟨h.2.2.2.1.1.below hb h.2.2.2.1.1.lt, h.2.2.2.1.2.below hb⟩, h.2.2.2.2.1.below hb, h.2.2.2.2.2.below hbs hb⟩
set_option maxRecDepth 100000 in
set_option maxHeartbeats 600000 in
theorem giveNode_err (W : World) (wb base g cap : Nat) (vt : Value) (s : Stp) (rest : List Stp) (out : List UInt8) (got : Nat) (t : List UInt8) (hbs : base ≤ W.heap.size) (h : Wv W wb base (.slice (some ⟨g, 0, none⟩) (rest.length + 1) cap) vt (s :: rest, out, got)) (he : (parseN t).2.2 ≠ 0) :
    Calls Tryd.prog 51 #[ptr wb, .agg (pdC s).toArray, .string (str t)] W fun e w' => e = .returned (.int .i64 (parseN t).2.2) ∧ Wv w' wb base (.slice (some ⟨g, 0, none⟩) (rest.length + 1) cap) vt (s :: rest, out, got) ∧ Fr base wb (.slice (some ⟨g, 0, none⟩) (rest.length + 1) cap) vt W w' := by
  have HW := Lib.hid h
  obtain ⟨P0, hP0⟩ : ∃ c, c = pdC s := ⟨_, rfl⟩
  have HPA := Lib.hid (fun W => parse_any t W)
  obtain ⟨pl, ps, pe, hpn⟩ : ∃ a b c, parseN t = (a, b, c) := ⟨_, _, _, rfl⟩
  rw [hpn] at HPA he ⊢
  simp only at HPA he ⊢
  have hd : ((pe : Int) != 0) = true := by simpa using he
  rw [← hP0]
  clear hpn h he hP0
  go_enter Tryd.func51, Tryd.ntmps51
  go_wp2_with fail
  refine (HPA.out _).mono ?_
  rintro e w1 ⟨v, rfl, hp1, hb1⟩
  obtain ⟨av, cv, hv, -, -⟩ := hp1.form
  subst hv
  have HB1 := Lib.hid (belowThen (belowThen (belowSelf W _) (belowSelf _ _)) hb1)
  clear hp1 hb1 HPA
  go_wp2_with fail
  go_ret
  exact ⟨rfl, HW.out.below (belowThen HB1.out (belowSelf _ _)), Fr.of_below hbs (belowThen HB1.out (belowSelf _ _))⟩
set_option maxRecDepth 100000 in
set_option maxHeartbeats 600000 in
theorem giveNode_badA (W : World) (wb base g cap : Nat) (vt : Value) (s : Stp) (rest : List Stp) (out : List UInt8) (got : Nat) (t : List UInt8) (h32 : s.1.1.length = 32) (hbs : base ≤ W.heap.size) (h : Wv W wb base (.slice (some ⟨g, 0, none⟩) (rest.length + 1) cap) vt (s :: rest, out, got)) (he : (parseN t).2.2 = 0) (hL : max s.2 0 ≠ 0) (hlv : (parseN t).1 ≠ max s.2 0) :
    Calls Tryd.prog 51 #[ptr wb, .agg (pdC s).toArray, .string (str t)] W fun e w' => e = .returned (.int .i64 2) ∧ Wv w' wb base (.slice (some ⟨g, 0, none⟩) (rest.length + 1) cap) vt (s :: rest, out, got) ∧ Fr base wb (.slice (some ⟨g, 0, none⟩) (rest.length + 1) cap) vt W w' := by
  have HW := Lib.hid h
  have H34 := Lib.hid (pd_lvl s h32)
  have H33 := Lib.hid (pd_size s h32)
  have HPA := Lib.hid (fun W => parse_own t W)
  have HOK := Lib.hid (parse_ok t he)
  have HSIZE := Lib.hid (show ∀ (w : World) {v : Value}, Pts w v (parseN t).2.1 → Calls Tryd.prog 61 #[.agg #[.int .i64 (parseN t).1, v]] w fun e w' => e = .returned (.int .i64 (sumP (parseN t).2.1)) ∧ Below w.heap.size w w' from fun w v hv => by
    obtain ⟨_, h2, _, h4, _, _⟩ := HOK.out
    obtain ⟨_, _, _, _, c5, _⟩ := chkN_zero h2
    have hs := small_of c5 h4
    exact size_any _ v _ w hv hs.1 hs.2 (by omega))
  obtain ⟨⟨x, z⟩, lv⟩ := s
  simp only at H34 H33 h32 hL hlv
  obtain ⟨P0, hP0⟩ : ∃ c, c = pdC ((x, z), lv) := ⟨_, rfl⟩
  obtain ⟨L0, hL0⟩ : ∃ c, c = max lv 0 := ⟨_, rfl⟩
  obtain ⟨pl, ps, pe, hpn⟩ : ∃ a b c, parseN t = (a, b, c) := ⟨_, _, _, rfl⟩
  rw [hpn] at HPA he HSIZE hlv
  simp only at HPA he HSIZE hL hlv
  subst he
  rw [← hL0] at H34 hL hlv
  rw [← hP0] at H34 H33 ⊢
  clear hpn h hP0 hL0 HOK
  have hd2 : ((L0 : Int) != 0) = true := by simpa using hL
  have hd8 : ((pl : Int) != L0) = true := by simpa using hlv
  clear hL hlv
  go_enter Tryd.func51, Tryd.ntmps51
  go_wp2_with fail
  refine (HPA.out _).mono ?_
  rintro e w1 ⟨v, rfl, ⟨hn1, hr1⟩, hb1⟩
  obtain ⟨av, cv, hv, -, -⟩ := hr1.rd
  rw [List.length_map] at hv
  subst hv
  have HGN := Lib.hid (show GN W wb base (.slice (some ⟨g, 0, none⟩) (rest.length + 1) cap) vt (((x, z), lv) :: rest, out, got) P0 w1.heap.size pl (.slice av ps.length cv) ps (w1.alloc (.cells #[.int .i64 pl, .slice av ps.length cv] Tnd)) from
    ⟨((Mem.newAt (W.alloc (.cells #[ptr wb] Tpw)) Tpd P0 (g := W.heap.size + 1) (by simp)).below hb1 (by simp)).alloc _, Mem.new w1 Tnd [.int .i64 pl, .slice av ps.length cv], (show Pts w1 _ ps from ⟨hn1, hr1.rd⟩).below (belowSelf _ _), ⟨(((Mem.new W Tpw [ptr wb]).alloc _).below hb1 (by simp; omega)).alloc _, (hr1.mono (by simp)).below (belowSelf _ _)⟩, ((((HW.out.below (belowSelf W _)).below (belowSelf _ _)).below hb1).below (belowSelf _ _)), Fr.of_below hbs (belowThen (belowThen (belowThen (belowSelf W _) (belowSelf _ _)) hb1) (belowSelf _ _))⟩)
  clear hn1 hr1 hb1 HPA
  go_wp2_with fail
  have HS0 := Lib.hid (show GN W wb base (.slice (some ⟨g, 0, none⟩) (rest.length + 1) cap) vt (((x, z), lv) :: rest, out, got) P0 w1.heap.size pl (.slice av ps.length cv) ps (w1.alloc (.cells #[.int .i64 pl, .slice av ps.length cv] Tnd)).drew from HGN.out.below hbs (below_drewN (Below.refl _ _) 1))
  refine wp_region_held_drew (S := GN W wb base (.slice (some ⟨g, 0, none⟩) (rest.length + 1) cap) vt (((x, z), lv) :: rest, out, got) P0 w1.heap.size pl (.slice av ps.length cv) ps) (by kernel_rfl) HS0.out (fun hHeld => ?_)
  refine wpAnyH_take (i := 0) (oi := { dst := some 19, op := Op.fieldAddr 117 (Operand.tmp 4) 1, type := 0, pos := "weave.go:73", after := #[], guard := none }) (v := .pointer (some ⟨W.heap.size + 1, 34, none⟩)) rfl (by kernel_rfl) (by kernel_rfl) (by kernel_rfl) (fun _ _ _ h => h) (Or.inl ⟨by rfl, ?_⟩) hHeld ?_
  · intro w' hSw
    obtain ⟨z1, z2, -⟩ := hSw
    have y34 : w'.cell? ⟨W.heap.size + 1, 34, none⟩ = some (.int .i64 L0) := (z1.cell 34).trans H34.out
    have y33 : w'.cell? ⟨W.heap.size + 1, 33, none⟩ = some (.int .i64 z) := (z1.cell 33).trans H33.out
    have n0 : w'.cell? ⟨w1.heap.size, 0, none⟩ = some (.int .i64 pl) := z2.cell 0
    have n1 : w'.cell? ⟨w1.heap.size, 1, none⟩ = some (.slice av ps.length cv) := z2.cell 1
    clear z1 z2
    go_simp
  simp only [Act.put, List.setIfInBounds_toArray, List.set_cons_zero, List.set_cons_succ]
  refine wpAnyH_take (i := 1) (oi := { dst := some 20, op := Op.load 3 (Operand.tmp 19), type := 3, pos := "weave.go:73", after := #[{ on := 0, ground := Ground.data }], guard := none }) (v := .int .i64 L0) rfl (by kernel_rfl) (by kernel_rfl) (by kernel_rfl) (fun _ _ _ h => h) (Or.inl ⟨by rfl, ?_⟩) hHeld ?_
  · intro w' hSw
    obtain ⟨z1, z2, -⟩ := hSw
    have y34 : w'.cell? ⟨W.heap.size + 1, 34, none⟩ = some (.int .i64 L0) := (z1.cell 34).trans H34.out
    have y33 : w'.cell? ⟨W.heap.size + 1, 33, none⟩ = some (.int .i64 z) := (z1.cell 33).trans H33.out
    have n0 : w'.cell? ⟨w1.heap.size, 0, none⟩ = some (.int .i64 pl) := z2.cell 0
    have n1 : w'.cell? ⟨w1.heap.size, 1, none⟩ = some (.slice av ps.length cv) := z2.cell 1
    clear z1 z2
    go_simp
  simp only [Act.put, List.setIfInBounds_toArray, List.set_cons_zero, List.set_cons_succ]
  refine wpAnyH_take (i := 2) (oi := { dst := some 21, op := Op.binOp BinOp.neq 3 (Operand.tmp 20) (Operand.const (Value.int IntKind.i64 0)) 3, type := 4, pos := "weave.go:73", after := #[{ on := 1, ground := Ground.data }], guard := none }) (v := .bool true) rfl (by kernel_rfl) (by kernel_rfl) (by kernel_rfl) (fun _ _ _ h => h) (Or.inl ⟨by rfl, ?_⟩) hHeld ?_
  · intro w' hSw
    obtain ⟨z1, z2, -⟩ := hSw
    have y34 : w'.cell? ⟨W.heap.size + 1, 34, none⟩ = some (.int .i64 L0) := (z1.cell 34).trans H34.out
    have y33 : w'.cell? ⟨W.heap.size + 1, 33, none⟩ = some (.int .i64 z) := (z1.cell 33).trans H33.out
    have n0 : w'.cell? ⟨w1.heap.size, 0, none⟩ = some (.int .i64 pl) := z2.cell 0
    have n1 : w'.cell? ⟨w1.heap.size, 1, none⟩ = some (.slice av ps.length cv) := z2.cell 1
    clear z1 z2
    go_simp
  simp only [Act.put, List.setIfInBounds_toArray, List.set_cons_zero, List.set_cons_succ]
  refine wpAnyH_take (i := 3) (oi := { dst := some 22, op := Op.move (Operand.tmp 21), type := 4, pos := "weave.go:73", after := #[{ on := 2, ground := Ground.data }], guard := none }) (v := .bool true) rfl (by kernel_rfl) (by kernel_rfl) (by kernel_rfl) (fun _ _ _ h => h) (Or.inl ⟨by rfl, ?_⟩) hHeld ?_
  · intro w' hSw
    obtain ⟨z1, z2, -⟩ := hSw
    have y34 : w'.cell? ⟨W.heap.size + 1, 34, none⟩ = some (.int .i64 L0) := (z1.cell 34).trans H34.out
    have y33 : w'.cell? ⟨W.heap.size + 1, 33, none⟩ = some (.int .i64 z) := (z1.cell 33).trans H33.out
    have n0 : w'.cell? ⟨w1.heap.size, 0, none⟩ = some (.int .i64 pl) := z2.cell 0
    have n1 : w'.cell? ⟨w1.heap.size, 1, none⟩ = some (.slice av ps.length cv) := z2.cell 1
    clear z1 z2
    go_simp
  simp only [Act.put, List.setIfInBounds_toArray, List.set_cons_zero, List.set_cons_succ]
  refine wpAnyH_take (i := 4) (oi := { dst := some 23, op := Op.fieldAddr 25 (Operand.tmp 7) 0, type := 0, pos := "weave.go:73", after := #[{ on := 3, ground := Ground.guard }], guard := some (3, true) }) (v := .pointer (some ⟨w1.heap.size, 0, none⟩)) rfl (by kernel_rfl) (by kernel_rfl) (by kernel_rfl) (fun _ _ _ h => h) (Or.inl ⟨by rfl, ?_⟩) hHeld ?_
  · intro w' hSw
    obtain ⟨z1, z2, -⟩ := hSw
    have y34 : w'.cell? ⟨W.heap.size + 1, 34, none⟩ = some (.int .i64 L0) := (z1.cell 34).trans H34.out
    have y33 : w'.cell? ⟨W.heap.size + 1, 33, none⟩ = some (.int .i64 z) := (z1.cell 33).trans H33.out
    have n0 : w'.cell? ⟨w1.heap.size, 0, none⟩ = some (.int .i64 pl) := z2.cell 0
    have n1 : w'.cell? ⟨w1.heap.size, 1, none⟩ = some (.slice av ps.length cv) := z2.cell 1
    clear z1 z2
    go_simp
  simp only [Act.put, List.setIfInBounds_toArray, List.set_cons_zero, List.set_cons_succ]
  refine wpAnyH_take (i := 5) (oi := { dst := some 24, op := Op.load 3 (Operand.tmp 23), type := 3, pos := "weave.go:73", after := #[{ on := 4, ground := Ground.data }, { on := 3, ground := Ground.guard }], guard := some (3, true) }) (v := .int .i64 pl) rfl (by kernel_rfl) (by kernel_rfl) (by kernel_rfl) (fun _ _ _ h => h) (Or.inl ⟨by rfl, ?_⟩) hHeld ?_
  · intro w' hSw
    obtain ⟨z1, z2, -⟩ := hSw
    have y34 : w'.cell? ⟨W.heap.size + 1, 34, none⟩ = some (.int .i64 L0) := (z1.cell 34).trans H34.out
    have y33 : w'.cell? ⟨W.heap.size + 1, 33, none⟩ = some (.int .i64 z) := (z1.cell 33).trans H33.out
    have n0 : w'.cell? ⟨w1.heap.size, 0, none⟩ = some (.int .i64 pl) := z2.cell 0
    have n1 : w'.cell? ⟨w1.heap.size, 1, none⟩ = some (.slice av ps.length cv) := z2.cell 1
    clear z1 z2
    go_simp
  simp only [Act.put, List.setIfInBounds_toArray, List.set_cons_zero, List.set_cons_succ]
  refine wpAnyH_take (i := 6) (oi := { dst := some 25, op := Op.fieldAddr 117 (Operand.tmp 4) 1, type := 0, pos := "weave.go:73", after := #[{ on := 3, ground := Ground.guard }], guard := some (3, true) }) (v := .pointer (some ⟨W.heap.size + 1, 34, none⟩)) rfl (by kernel_rfl) (by kernel_rfl) (by kernel_rfl) (fun _ _ _ h => h) (Or.inl ⟨by rfl, ?_⟩) hHeld ?_
  · intro w' hSw
    obtain ⟨z1, z2, -⟩ := hSw
    have y34 : w'.cell? ⟨W.heap.size + 1, 34, none⟩ = some (.int .i64 L0) := (z1.cell 34).trans H34.out
    have y33 : w'.cell? ⟨W.heap.size + 1, 33, none⟩ = some (.int .i64 z) := (z1.cell 33).trans H33.out
    have n0 : w'.cell? ⟨w1.heap.size, 0, none⟩ = some (.int .i64 pl) := z2.cell 0
    have n1 : w'.cell? ⟨w1.heap.size, 1, none⟩ = some (.slice av ps.length cv) := z2.cell 1
    clear z1 z2
    go_simp
  simp only [Act.put, List.setIfInBounds_toArray, List.set_cons_zero, List.set_cons_succ]
  refine wpAnyH_take (i := 7) (oi := { dst := some 26, op := Op.load 3 (Operand.tmp 25), type := 3, pos := "weave.go:73", after := #[{ on := 6, ground := Ground.data }, { on := 3, ground := Ground.guard }], guard := some (3, true) }) (v := .int .i64 L0) rfl (by kernel_rfl) (by kernel_rfl) (by kernel_rfl) (fun _ _ _ h => h) (Or.inl ⟨by rfl, ?_⟩) hHeld ?_
  · intro w' hSw
    obtain ⟨z1, z2, -⟩ := hSw
    have y34 : w'.cell? ⟨W.heap.size + 1, 34, none⟩ = some (.int .i64 L0) := (z1.cell 34).trans H34.out
    have y33 : w'.cell? ⟨W.heap.size + 1, 33, none⟩ = some (.int .i64 z) := (z1.cell 33).trans H33.out
    have n0 : w'.cell? ⟨w1.heap.size, 0, none⟩ = some (.int .i64 pl) := z2.cell 0
    have n1 : w'.cell? ⟨w1.heap.size, 1, none⟩ = some (.slice av ps.length cv) := z2.cell 1
    clear z1 z2
    go_simp
  simp only [Act.put, List.setIfInBounds_toArray, List.set_cons_zero, List.set_cons_succ]
  refine wpAnyH_take (i := 8) (oi := { dst := some 27, op := Op.binOp BinOp.neq 3 (Operand.tmp 24) (Operand.tmp 26) 3, type := 4, pos := "weave.go:73", after := #[{ on := 5, ground := Ground.data }, { on := 7, ground := Ground.data }, { on := 3, ground := Ground.guard }], guard := some (3, true) }) (v := .bool true) rfl (by kernel_rfl) (by kernel_rfl) (by kernel_rfl) (fun _ _ _ h => h) (Or.inl ⟨by rfl, ?_⟩) hHeld ?_
  · intro w' hSw
    obtain ⟨z1, z2, -⟩ := hSw
    have y34 : w'.cell? ⟨W.heap.size + 1, 34, none⟩ = some (.int .i64 L0) := (z1.cell 34).trans H34.out
    have y33 : w'.cell? ⟨W.heap.size + 1, 33, none⟩ = some (.int .i64 z) := (z1.cell 33).trans H33.out
    have n0 : w'.cell? ⟨w1.heap.size, 0, none⟩ = some (.int .i64 pl) := z2.cell 0
    have n1 : w'.cell? ⟨w1.heap.size, 1, none⟩ = some (.slice av ps.length cv) := z2.cell 1
    clear z1 z2
    go_simp
  simp only [Act.put, List.setIfInBounds_toArray, List.set_cons_zero, List.set_cons_succ]
  refine wpAnyH_take (i := 9) (oi := { dst := some 28, op := Op.pick (Operand.tmp 22) (Operand.tmp 27) (Operand.const (Value.bool false)), type := 4, pos := "weave.go:73", after := #[{ on := 3, ground := Ground.data }, { on := 8, ground := Ground.data }], guard := none }) (v := .bool true) rfl (by kernel_rfl) (by kernel_rfl) (by kernel_rfl) (fun _ _ _ h => h) (Or.inl ⟨by rfl, ?_⟩) hHeld ?_
  · intro w' hSw
    obtain ⟨z1, z2, -⟩ := hSw
    have y34 : w'.cell? ⟨W.heap.size + 1, 34, none⟩ = some (.int .i64 L0) := (z1.cell 34).trans H34.out
    have y33 : w'.cell? ⟨W.heap.size + 1, 33, none⟩ = some (.int .i64 z) := (z1.cell 33).trans H33.out
    have n0 : w'.cell? ⟨w1.heap.size, 0, none⟩ = some (.int .i64 pl) := z2.cell 0
    have n1 : w'.cell? ⟨w1.heap.size, 1, none⟩ = some (.slice av ps.length cv) := z2.cell 1
    clear z1 z2
    go_simp
  simp only [Act.put, List.setIfInBounds_toArray, List.set_cons_zero, List.set_cons_succ]
  refine wpAnyH_take (i := 10) (oi := { dst := some 29, op := Op.move (Operand.tmp 28), type := 4, pos := "weave.go:73", after := #[{ on := 9, ground := Ground.data }, { on := 3, ground := Ground.chain }], guard := none }) (v := .bool true) rfl (by kernel_rfl) (by kernel_rfl) (by kernel_rfl) (fun _ _ _ h => h) (Or.inl ⟨by rfl, ?_⟩) hHeld ?_
  · intro w' hSw
    obtain ⟨z1, z2, -⟩ := hSw
    have y34 : w'.cell? ⟨W.heap.size + 1, 34, none⟩ = some (.int .i64 L0) := (z1.cell 34).trans H34.out
    have y33 : w'.cell? ⟨W.heap.size + 1, 33, none⟩ = some (.int .i64 z) := (z1.cell 33).trans H33.out
    have n0 : w'.cell? ⟨w1.heap.size, 0, none⟩ = some (.int .i64 pl) := z2.cell 0
    have n1 : w'.cell? ⟨w1.heap.size, 1, none⟩ = some (.slice av ps.length cv) := z2.cell 1
    clear z1 z2
    go_simp
  simp only [Act.put, List.setIfInBounds_toArray, List.set_cons_zero, List.set_cons_succ]
  refine wpAnyH_take (i := 11) (oi := { dst := some 30, op := Op.load 25 (Operand.tmp 7), type := 25, pos := "weave.go:73", after := #[{ on := 10, ground := Ground.guard }], guard := some (10, false) }) (v := undef) rfl (by kernel_rfl) (by kernel_rfl) (by kernel_rfl) (fun _ _ _ h => h) (Or.inr ⟨by rfl, rfl⟩) hHeld ?_
  simp only [Act.put, List.setIfInBounds_toArray, List.set_cons_zero, List.set_cons_succ]
  refine wpAnyH_take (i := 13) (oi := { dst := some 32, op := Op.fieldAddr 117 (Operand.tmp 4) 0, type := 0, pos := "weave.go:73", after := #[{ on := 10, ground := Ground.guard }], guard := some (10, false) }) (v := undef) rfl (by kernel_rfl) (by kernel_rfl) (by kernel_rfl) (fun _ _ _ h => h) (Or.inr ⟨by rfl, rfl⟩) hHeld ?_
  simp only [Act.put, List.setIfInBounds_toArray, List.set_cons_zero, List.set_cons_succ]
  refine wpAnyH_take (i := 14) (oi := { dst := some 33, op := Op.fieldAddr 113 (Operand.tmp 32) 1, type := 0, pos := "weave.go:73", after := #[{ on := 13, ground := Ground.data }, { on := 10, ground := Ground.guard }], guard := some (10, false) }) (v := undef) rfl (by kernel_rfl) (by kernel_rfl) (by kernel_rfl) (fun _ _ _ h => h) (Or.inr ⟨by rfl, rfl⟩) hHeld ?_
  simp only [Act.put, List.setIfInBounds_toArray, List.set_cons_zero, List.set_cons_succ]
  refine wpAnyH_take (i := 15) (oi := { dst := some 34, op := Op.fieldAddr 43 (Operand.tmp 33) 1, type := 0, pos := "weave.go:73", after := #[{ on := 14, ground := Ground.data }, { on := 10, ground := Ground.guard }], guard := some (10, false) }) (v := undef) rfl (by kernel_rfl) (by kernel_rfl) (by kernel_rfl) (fun _ _ _ h => h) (Or.inr ⟨by rfl, rfl⟩) hHeld ?_
  simp only [Act.put, List.setIfInBounds_toArray, List.set_cons_zero, List.set_cons_succ]
  refine wpAnyH_take (i := 16) (oi := { dst := some 35, op := Op.load 3 (Operand.tmp 34), type := 3, pos := "weave.go:73", after := #[{ on := 15, ground := Ground.data }, { on := 10, ground := Ground.guard }], guard := some (10, false) }) (v := undef) rfl (by kernel_rfl) (by kernel_rfl) (by kernel_rfl) (fun _ _ _ h => h) (Or.inr ⟨by rfl, rfl⟩) hHeld ?_
  simp only [Act.put, List.setIfInBounds_toArray, List.set_cons_zero, List.set_cons_succ]
  refine wpAnyH_take (i := 12) (oi := { dst := some 31, op := Op.call { callee := Callee.value (Operand.func 61), args := #[Operand.tmp 30], argTypes := #[25] }, type := 3, pos := "weave.go:73", after := #[{ on := 11, ground := Ground.data }, { on := 10, ground := Ground.chain }, { on := 10, ground := Ground.guard }], guard := some (10, false) }) (v := undef) rfl (by kernel_rfl) (by kernel_rfl) (by kernel_rfl) (fun _ _ _ h => h) (Or.inr ⟨by rfl, rfl⟩) hHeld ?_
  simp only [Act.put, List.setIfInBounds_toArray, List.set_cons_zero, List.set_cons_succ]
  refine wpAnyH_take (i := 17) (oi := { dst := some 36, op := Op.binOp BinOp.neq 3 (Operand.tmp 31) (Operand.tmp 35) 3, type := 4, pos := "weave.go:73", after := #[{ on := 12, ground := Ground.data }, { on := 16, ground := Ground.data }, { on := 10, ground := Ground.guard }], guard := some (10, false) }) (v := undef) rfl (by kernel_rfl) (by kernel_rfl) (by kernel_rfl) (fun _ _ _ h => h) (Or.inr ⟨by rfl, rfl⟩) hHeld ?_
  simp only [Act.put, List.setIfInBounds_toArray, List.set_cons_zero, List.set_cons_succ]
  refine wpAnyH_take (i := 18) (oi := { dst := some 37, op := Op.pick (Operand.tmp 29) (Operand.const (Value.bool true)) (Operand.tmp 36), type := 4, pos := "weave.go:73", after := #[{ on := 10, ground := Ground.data }, { on := 17, ground := Ground.data }], guard := none }) (v := .bool true) rfl (by kernel_rfl) (by kernel_rfl) (by kernel_rfl) (fun _ _ _ h => h) (Or.inl ⟨by rfl, ?_⟩) hHeld ?_
  · intro w' hSw
    obtain ⟨z1, z2, -⟩ := hSw
    have y34 : w'.cell? ⟨W.heap.size + 1, 34, none⟩ = some (.int .i64 L0) := (z1.cell 34).trans H34.out
    have y33 : w'.cell? ⟨W.heap.size + 1, 33, none⟩ = some (.int .i64 z) := (z1.cell 33).trans H33.out
    have n0 : w'.cell? ⟨w1.heap.size, 0, none⟩ = some (.int .i64 pl) := z2.cell 0
    have n1 : w'.cell? ⟨w1.heap.size, 1, none⟩ = some (.slice av ps.length cv) := z2.cell 1
    clear z1 z2
    go_simp
  simp only [Act.put, List.setIfInBounds_toArray, List.set_cons_zero, List.set_cons_succ]
  refine wpAnyH_done (by kernel_rfl) ?_ _
  have HSE := Lib.hid HS0.out
  rename_i Kz hKz
  refine hKz _ _ ?_
  go_wp2_with fail
  go_ret
  exact ⟨rfl, HSE.out.2.2.2.2.1, HSE.out.2.2.2.2.2⟩
set_option maxRecDepth 100000 in
set_option maxHeartbeats 600000 in
theorem giveNode_badB (W : World) (wb base g cap : Nat) (vt : Value) (s : Stp) (rest : List Stp) (out : List UInt8) (got : Nat) (t : List UInt8) (h32 : s.1.1.length = 32) (hbs : base ≤ W.heap.size) (h : Wv W wb base (.slice (some ⟨g, 0, none⟩) (rest.length + 1) cap) vt (s :: rest, out, got)) (he : (parseN t).2.2 = 0) (hL : max s.2 0 ≠ 0) (hlv : (parseN t).1 = max s.2 0) (hsum : sumP (parseN t).2.1 ≠ s.1.2) :
    Calls Tryd.prog 51 #[ptr wb, .agg (pdC s).toArray, .string (str t)] W fun e w' => e = .returned (.int .i64 2) ∧ Wv w' wb base (.slice (some ⟨g, 0, none⟩) (rest.length + 1) cap) vt (s :: rest, out, got) ∧ Fr base wb (.slice (some ⟨g, 0, none⟩) (rest.length + 1) cap) vt W w' := by
  have HW := Lib.hid h
  have H34 := Lib.hid (pd_lvl s h32)
  have H33 := Lib.hid (pd_size s h32)
  have HPA := Lib.hid (fun W => parse_own t W)
  have HOK := Lib.hid (parse_ok t he)
  have HSIZE := Lib.hid (show ∀ (w : World) {v : Value}, Pts w v (parseN t).2.1 → Calls Tryd.prog 61 #[.agg #[.int .i64 (parseN t).1, v]] w fun e w' => e = .returned (.int .i64 (sumP (parseN t).2.1)) ∧ Below w.heap.size w w' from fun w v hv => by
    obtain ⟨_, h2, _, h4, _, _⟩ := HOK.out
    obtain ⟨_, _, _, _, c5, _⟩ := chkN_zero h2
    have hs := small_of c5 h4
    exact size_any _ v _ w hv hs.1 hs.2 (by omega))
  obtain ⟨⟨x, z⟩, lv⟩ := s
  simp only at H34 H33 h32 hL hlv hsum
  obtain ⟨P0, hP0⟩ : ∃ c, c = pdC ((x, z), lv) := ⟨_, rfl⟩
  obtain ⟨L0, hL0⟩ : ∃ c, c = max lv 0 := ⟨_, rfl⟩
  obtain ⟨pl, ps, pe, hpn⟩ : ∃ a b c, parseN t = (a, b, c) := ⟨_, _, _, rfl⟩
  rw [hpn] at HPA he HSIZE hlv hsum
  simp only at HPA he HSIZE hL hlv hsum
  subst he
  rw [← hL0] at H34 hL hlv
  rw [← hP0] at H34 H33 ⊢
  clear hpn h hP0 hL0 HOK
  have hd2 : ((L0 : Int) != 0) = true := by simpa using hL
  have hd8 : ((pl : Int) != L0) = false := by simpa using hlv
  have hd17 : ((sumP ps : Int) != z) = true := by simpa using hsum
  clear hL hlv hsum
  go_enter Tryd.func51, Tryd.ntmps51
  go_wp2_with fail
  refine (HPA.out _).mono ?_
  rintro e w1 ⟨v, rfl, ⟨hn1, hr1⟩, hb1⟩
  obtain ⟨av, cv, hv, -, -⟩ := hr1.rd
  rw [List.length_map] at hv
  subst hv
  have HGN := Lib.hid (show GN W wb base (.slice (some ⟨g, 0, none⟩) (rest.length + 1) cap) vt (((x, z), lv) :: rest, out, got) P0 w1.heap.size pl (.slice av ps.length cv) ps (w1.alloc (.cells #[.int .i64 pl, .slice av ps.length cv] Tnd)) from
    ⟨((Mem.newAt (W.alloc (.cells #[ptr wb] Tpw)) Tpd P0 (g := W.heap.size + 1) (by simp)).below hb1 (by simp)).alloc _, Mem.new w1 Tnd [.int .i64 pl, .slice av ps.length cv], (show Pts w1 _ ps from ⟨hn1, hr1.rd⟩).below (belowSelf _ _), ⟨(((Mem.new W Tpw [ptr wb]).alloc _).below hb1 (by simp; omega)).alloc _, (hr1.mono (by simp)).below (belowSelf _ _)⟩, ((((HW.out.below (belowSelf W _)).below (belowSelf _ _)).below hb1).below (belowSelf _ _)), Fr.of_below hbs (belowThen (belowThen (belowThen (belowSelf W _) (belowSelf _ _)) hb1) (belowSelf _ _))⟩)
  clear hn1 hr1 hb1 HPA
  go_wp2_with fail
  have HS0 := Lib.hid (show GN W wb base (.slice (some ⟨g, 0, none⟩) (rest.length + 1) cap) vt (((x, z), lv) :: rest, out, got) P0 w1.heap.size pl (.slice av ps.length cv) ps (w1.alloc (.cells #[.int .i64 pl, .slice av ps.length cv] Tnd)).drew from HGN.out.below hbs (below_drewN (Below.refl _ _) 1))
  refine wp_region_held_drew (S := GN W wb base (.slice (some ⟨g, 0, none⟩) (rest.length + 1) cap) vt (((x, z), lv) :: rest, out, got) P0 w1.heap.size pl (.slice av ps.length cv) ps) (by kernel_rfl) HS0.out (fun hHeld => ?_)
  refine wpAnyH_take (i := 0) (oi := { dst := some 19, op := Op.fieldAddr 117 (Operand.tmp 4) 1, type := 0, pos := "weave.go:73", after := #[], guard := none }) (v := .pointer (some ⟨W.heap.size + 1, 34, none⟩)) rfl (by kernel_rfl) (by kernel_rfl) (by kernel_rfl) (fun _ _ _ h => h) (Or.inl ⟨by rfl, ?_⟩) hHeld ?_
  · intro w' hSw
    obtain ⟨z1, z2, -⟩ := hSw
    have y34 : w'.cell? ⟨W.heap.size + 1, 34, none⟩ = some (.int .i64 L0) := (z1.cell 34).trans H34.out
    have y33 : w'.cell? ⟨W.heap.size + 1, 33, none⟩ = some (.int .i64 z) := (z1.cell 33).trans H33.out
    have n0 : w'.cell? ⟨w1.heap.size, 0, none⟩ = some (.int .i64 pl) := z2.cell 0
    have n1 : w'.cell? ⟨w1.heap.size, 1, none⟩ = some (.slice av ps.length cv) := z2.cell 1
    clear z1 z2
    go_simp
  simp only [Act.put, List.setIfInBounds_toArray, List.set_cons_zero, List.set_cons_succ]
  refine wpAnyH_take (i := 1) (oi := { dst := some 20, op := Op.load 3 (Operand.tmp 19), type := 3, pos := "weave.go:73", after := #[{ on := 0, ground := Ground.data }], guard := none }) (v := .int .i64 L0) rfl (by kernel_rfl) (by kernel_rfl) (by kernel_rfl) (fun _ _ _ h => h) (Or.inl ⟨by rfl, ?_⟩) hHeld ?_
  · intro w' hSw
    obtain ⟨z1, z2, -⟩ := hSw
    have y34 : w'.cell? ⟨W.heap.size + 1, 34, none⟩ = some (.int .i64 L0) := (z1.cell 34).trans H34.out
    have y33 : w'.cell? ⟨W.heap.size + 1, 33, none⟩ = some (.int .i64 z) := (z1.cell 33).trans H33.out
    have n0 : w'.cell? ⟨w1.heap.size, 0, none⟩ = some (.int .i64 pl) := z2.cell 0
    have n1 : w'.cell? ⟨w1.heap.size, 1, none⟩ = some (.slice av ps.length cv) := z2.cell 1
    clear z1 z2
    go_simp
  simp only [Act.put, List.setIfInBounds_toArray, List.set_cons_zero, List.set_cons_succ]
  refine wpAnyH_take (i := 2) (oi := { dst := some 21, op := Op.binOp BinOp.neq 3 (Operand.tmp 20) (Operand.const (Value.int IntKind.i64 0)) 3, type := 4, pos := "weave.go:73", after := #[{ on := 1, ground := Ground.data }], guard := none }) (v := .bool true) rfl (by kernel_rfl) (by kernel_rfl) (by kernel_rfl) (fun _ _ _ h => h) (Or.inl ⟨by rfl, ?_⟩) hHeld ?_
  · intro w' hSw
    obtain ⟨z1, z2, -⟩ := hSw
    have y34 : w'.cell? ⟨W.heap.size + 1, 34, none⟩ = some (.int .i64 L0) := (z1.cell 34).trans H34.out
    have y33 : w'.cell? ⟨W.heap.size + 1, 33, none⟩ = some (.int .i64 z) := (z1.cell 33).trans H33.out
    have n0 : w'.cell? ⟨w1.heap.size, 0, none⟩ = some (.int .i64 pl) := z2.cell 0
    have n1 : w'.cell? ⟨w1.heap.size, 1, none⟩ = some (.slice av ps.length cv) := z2.cell 1
    clear z1 z2
    go_simp
  simp only [Act.put, List.setIfInBounds_toArray, List.set_cons_zero, List.set_cons_succ]
  refine wpAnyH_take (i := 3) (oi := { dst := some 22, op := Op.move (Operand.tmp 21), type := 4, pos := "weave.go:73", after := #[{ on := 2, ground := Ground.data }], guard := none }) (v := .bool true) rfl (by kernel_rfl) (by kernel_rfl) (by kernel_rfl) (fun _ _ _ h => h) (Or.inl ⟨by rfl, ?_⟩) hHeld ?_
  · intro w' hSw
    obtain ⟨z1, z2, -⟩ := hSw
    have y34 : w'.cell? ⟨W.heap.size + 1, 34, none⟩ = some (.int .i64 L0) := (z1.cell 34).trans H34.out
    have y33 : w'.cell? ⟨W.heap.size + 1, 33, none⟩ = some (.int .i64 z) := (z1.cell 33).trans H33.out
    have n0 : w'.cell? ⟨w1.heap.size, 0, none⟩ = some (.int .i64 pl) := z2.cell 0
    have n1 : w'.cell? ⟨w1.heap.size, 1, none⟩ = some (.slice av ps.length cv) := z2.cell 1
    clear z1 z2
    go_simp
  simp only [Act.put, List.setIfInBounds_toArray, List.set_cons_zero, List.set_cons_succ]
  refine wpAnyH_take (i := 4) (oi := { dst := some 23, op := Op.fieldAddr 25 (Operand.tmp 7) 0, type := 0, pos := "weave.go:73", after := #[{ on := 3, ground := Ground.guard }], guard := some (3, true) }) (v := .pointer (some ⟨w1.heap.size, 0, none⟩)) rfl (by kernel_rfl) (by kernel_rfl) (by kernel_rfl) (fun _ _ _ h => h) (Or.inl ⟨by rfl, ?_⟩) hHeld ?_
  · intro w' hSw
    obtain ⟨z1, z2, -⟩ := hSw
    have y34 : w'.cell? ⟨W.heap.size + 1, 34, none⟩ = some (.int .i64 L0) := (z1.cell 34).trans H34.out
    have y33 : w'.cell? ⟨W.heap.size + 1, 33, none⟩ = some (.int .i64 z) := (z1.cell 33).trans H33.out
    have n0 : w'.cell? ⟨w1.heap.size, 0, none⟩ = some (.int .i64 pl) := z2.cell 0
    have n1 : w'.cell? ⟨w1.heap.size, 1, none⟩ = some (.slice av ps.length cv) := z2.cell 1
    clear z1 z2
    go_simp
  simp only [Act.put, List.setIfInBounds_toArray, List.set_cons_zero, List.set_cons_succ]
  refine wpAnyH_take (i := 5) (oi := { dst := some 24, op := Op.load 3 (Operand.tmp 23), type := 3, pos := "weave.go:73", after := #[{ on := 4, ground := Ground.data }, { on := 3, ground := Ground.guard }], guard := some (3, true) }) (v := .int .i64 pl) rfl (by kernel_rfl) (by kernel_rfl) (by kernel_rfl) (fun _ _ _ h => h) (Or.inl ⟨by rfl, ?_⟩) hHeld ?_
  · intro w' hSw
    obtain ⟨z1, z2, -⟩ := hSw
    have y34 : w'.cell? ⟨W.heap.size + 1, 34, none⟩ = some (.int .i64 L0) := (z1.cell 34).trans H34.out
    have y33 : w'.cell? ⟨W.heap.size + 1, 33, none⟩ = some (.int .i64 z) := (z1.cell 33).trans H33.out
    have n0 : w'.cell? ⟨w1.heap.size, 0, none⟩ = some (.int .i64 pl) := z2.cell 0
    have n1 : w'.cell? ⟨w1.heap.size, 1, none⟩ = some (.slice av ps.length cv) := z2.cell 1
    clear z1 z2
    go_simp
  simp only [Act.put, List.setIfInBounds_toArray, List.set_cons_zero, List.set_cons_succ]
  refine wpAnyH_take (i := 6) (oi := { dst := some 25, op := Op.fieldAddr 117 (Operand.tmp 4) 1, type := 0, pos := "weave.go:73", after := #[{ on := 3, ground := Ground.guard }], guard := some (3, true) }) (v := .pointer (some ⟨W.heap.size + 1, 34, none⟩)) rfl (by kernel_rfl) (by kernel_rfl) (by kernel_rfl) (fun _ _ _ h => h) (Or.inl ⟨by rfl, ?_⟩) hHeld ?_
  · intro w' hSw
    obtain ⟨z1, z2, -⟩ := hSw
    have y34 : w'.cell? ⟨W.heap.size + 1, 34, none⟩ = some (.int .i64 L0) := (z1.cell 34).trans H34.out
    have y33 : w'.cell? ⟨W.heap.size + 1, 33, none⟩ = some (.int .i64 z) := (z1.cell 33).trans H33.out
    have n0 : w'.cell? ⟨w1.heap.size, 0, none⟩ = some (.int .i64 pl) := z2.cell 0
    have n1 : w'.cell? ⟨w1.heap.size, 1, none⟩ = some (.slice av ps.length cv) := z2.cell 1
    clear z1 z2
    go_simp
  simp only [Act.put, List.setIfInBounds_toArray, List.set_cons_zero, List.set_cons_succ]
  refine wpAnyH_take (i := 7) (oi := { dst := some 26, op := Op.load 3 (Operand.tmp 25), type := 3, pos := "weave.go:73", after := #[{ on := 6, ground := Ground.data }, { on := 3, ground := Ground.guard }], guard := some (3, true) }) (v := .int .i64 L0) rfl (by kernel_rfl) (by kernel_rfl) (by kernel_rfl) (fun _ _ _ h => h) (Or.inl ⟨by rfl, ?_⟩) hHeld ?_
  · intro w' hSw
    obtain ⟨z1, z2, -⟩ := hSw
    have y34 : w'.cell? ⟨W.heap.size + 1, 34, none⟩ = some (.int .i64 L0) := (z1.cell 34).trans H34.out
    have y33 : w'.cell? ⟨W.heap.size + 1, 33, none⟩ = some (.int .i64 z) := (z1.cell 33).trans H33.out
    have n0 : w'.cell? ⟨w1.heap.size, 0, none⟩ = some (.int .i64 pl) := z2.cell 0
    have n1 : w'.cell? ⟨w1.heap.size, 1, none⟩ = some (.slice av ps.length cv) := z2.cell 1
    clear z1 z2
    go_simp
  simp only [Act.put, List.setIfInBounds_toArray, List.set_cons_zero, List.set_cons_succ]
  refine wpAnyH_take (i := 8) (oi := { dst := some 27, op := Op.binOp BinOp.neq 3 (Operand.tmp 24) (Operand.tmp 26) 3, type := 4, pos := "weave.go:73", after := #[{ on := 5, ground := Ground.data }, { on := 7, ground := Ground.data }, { on := 3, ground := Ground.guard }], guard := some (3, true) }) (v := .bool false) rfl (by kernel_rfl) (by kernel_rfl) (by kernel_rfl) (fun _ _ _ h => h) (Or.inl ⟨by rfl, ?_⟩) hHeld ?_
  · intro w' hSw
    obtain ⟨z1, z2, -⟩ := hSw
    have y34 : w'.cell? ⟨W.heap.size + 1, 34, none⟩ = some (.int .i64 L0) := (z1.cell 34).trans H34.out
    have y33 : w'.cell? ⟨W.heap.size + 1, 33, none⟩ = some (.int .i64 z) := (z1.cell 33).trans H33.out
    have n0 : w'.cell? ⟨w1.heap.size, 0, none⟩ = some (.int .i64 pl) := z2.cell 0
    have n1 : w'.cell? ⟨w1.heap.size, 1, none⟩ = some (.slice av ps.length cv) := z2.cell 1
    clear z1 z2
    go_simp
  simp only [Act.put, List.setIfInBounds_toArray, List.set_cons_zero, List.set_cons_succ]
  refine wpAnyH_take (i := 9) (oi := { dst := some 28, op := Op.pick (Operand.tmp 22) (Operand.tmp 27) (Operand.const (Value.bool false)), type := 4, pos := "weave.go:73", after := #[{ on := 3, ground := Ground.data }, { on := 8, ground := Ground.data }], guard := none }) (v := .bool false) rfl (by kernel_rfl) (by kernel_rfl) (by kernel_rfl) (fun _ _ _ h => h) (Or.inl ⟨by rfl, ?_⟩) hHeld ?_
  · intro w' hSw
    obtain ⟨z1, z2, -⟩ := hSw
    have y34 : w'.cell? ⟨W.heap.size + 1, 34, none⟩ = some (.int .i64 L0) := (z1.cell 34).trans H34.out
    have y33 : w'.cell? ⟨W.heap.size + 1, 33, none⟩ = some (.int .i64 z) := (z1.cell 33).trans H33.out
    have n0 : w'.cell? ⟨w1.heap.size, 0, none⟩ = some (.int .i64 pl) := z2.cell 0
    have n1 : w'.cell? ⟨w1.heap.size, 1, none⟩ = some (.slice av ps.length cv) := z2.cell 1
    clear z1 z2
    go_simp
  simp only [Act.put, List.setIfInBounds_toArray, List.set_cons_zero, List.set_cons_succ]
  refine wpAnyH_take (i := 10) (oi := { dst := some 29, op := Op.move (Operand.tmp 28), type := 4, pos := "weave.go:73", after := #[{ on := 9, ground := Ground.data }, { on := 3, ground := Ground.chain }], guard := none }) (v := .bool false) rfl (by kernel_rfl) (by kernel_rfl) (by kernel_rfl) (fun _ _ _ h => h) (Or.inl ⟨by rfl, ?_⟩) hHeld ?_
  · intro w' hSw
    obtain ⟨z1, z2, -⟩ := hSw
    have y34 : w'.cell? ⟨W.heap.size + 1, 34, none⟩ = some (.int .i64 L0) := (z1.cell 34).trans H34.out
    have y33 : w'.cell? ⟨W.heap.size + 1, 33, none⟩ = some (.int .i64 z) := (z1.cell 33).trans H33.out
    have n0 : w'.cell? ⟨w1.heap.size, 0, none⟩ = some (.int .i64 pl) := z2.cell 0
    have n1 : w'.cell? ⟨w1.heap.size, 1, none⟩ = some (.slice av ps.length cv) := z2.cell 1
    clear z1 z2
    go_simp
  simp only [Act.put, List.setIfInBounds_toArray, List.set_cons_zero, List.set_cons_succ]
  refine wpAnyH_take (i := 11) (oi := { dst := some 30, op := Op.load 25 (Operand.tmp 7), type := 25, pos := "weave.go:73", after := #[{ on := 10, ground := Ground.guard }], guard := some (10, false) }) (v := .agg #[.int .i64 pl, .slice av ps.length cv]) rfl (by kernel_rfl) (by kernel_rfl) (by kernel_rfl) (fun _ _ _ h => h) (Or.inl ⟨by rfl, ?_⟩) hHeld ?_
  · intro w' hSw
    obtain ⟨z1, z2, -⟩ := hSw
    have y34 : w'.cell? ⟨W.heap.size + 1, 34, none⟩ = some (.int .i64 L0) := (z1.cell 34).trans H34.out
    have y33 : w'.cell? ⟨W.heap.size + 1, 33, none⟩ = some (.int .i64 z) := (z1.cell 33).trans H33.out
    have n0 : w'.cell? ⟨w1.heap.size, 0, none⟩ = some (.int .i64 pl) := z2.cell 0
    have n1 : w'.cell? ⟨w1.heap.size, 1, none⟩ = some (.slice av ps.length cv) := z2.cell 1
    clear z1 z2
    go_simp
  simp only [Act.put, List.setIfInBounds_toArray, List.set_cons_zero, List.set_cons_succ]
  refine wpAnyH_take (i := 13) (oi := { dst := some 32, op := Op.fieldAddr 117 (Operand.tmp 4) 0, type := 0, pos := "weave.go:73", after := #[{ on := 10, ground := Ground.guard }], guard := some (10, false) }) (v := .pointer (some ⟨W.heap.size + 1, 0, none⟩)) rfl (by kernel_rfl) (by kernel_rfl) (by kernel_rfl) (fun _ _ _ h => h) (Or.inl ⟨by rfl, ?_⟩) hHeld ?_
  · intro w' hSw
    obtain ⟨z1, z2, -⟩ := hSw
    have y34 : w'.cell? ⟨W.heap.size + 1, 34, none⟩ = some (.int .i64 L0) := (z1.cell 34).trans H34.out
    have y33 : w'.cell? ⟨W.heap.size + 1, 33, none⟩ = some (.int .i64 z) := (z1.cell 33).trans H33.out
    have n0 : w'.cell? ⟨w1.heap.size, 0, none⟩ = some (.int .i64 pl) := z2.cell 0
    have n1 : w'.cell? ⟨w1.heap.size, 1, none⟩ = some (.slice av ps.length cv) := z2.cell 1
    clear z1 z2
    go_simp
  simp only [Act.put, List.setIfInBounds_toArray, List.set_cons_zero, List.set_cons_succ]
  refine wpAnyH_take (i := 14) (oi := { dst := some 33, op := Op.fieldAddr 113 (Operand.tmp 32) 1, type := 0, pos := "weave.go:73", after := #[{ on := 13, ground := Ground.data }, { on := 10, ground := Ground.guard }], guard := some (10, false) }) (v := .pointer (some ⟨W.heap.size + 1, 1, none⟩)) rfl (by kernel_rfl) (by kernel_rfl) (by kernel_rfl) (fun _ _ _ h => h) (Or.inl ⟨by rfl, ?_⟩) hHeld ?_
  · intro w' hSw
    obtain ⟨z1, z2, -⟩ := hSw
    have y34 : w'.cell? ⟨W.heap.size + 1, 34, none⟩ = some (.int .i64 L0) := (z1.cell 34).trans H34.out
    have y33 : w'.cell? ⟨W.heap.size + 1, 33, none⟩ = some (.int .i64 z) := (z1.cell 33).trans H33.out
    have n0 : w'.cell? ⟨w1.heap.size, 0, none⟩ = some (.int .i64 pl) := z2.cell 0
    have n1 : w'.cell? ⟨w1.heap.size, 1, none⟩ = some (.slice av ps.length cv) := z2.cell 1
    clear z1 z2
    go_simp
  simp only [Act.put, List.setIfInBounds_toArray, List.set_cons_zero, List.set_cons_succ]
  refine wpAnyH_take (i := 15) (oi := { dst := some 34, op := Op.fieldAddr 43 (Operand.tmp 33) 1, type := 0, pos := "weave.go:73", after := #[{ on := 14, ground := Ground.data }, { on := 10, ground := Ground.guard }], guard := some (10, false) }) (v := .pointer (some ⟨W.heap.size + 1, 33, none⟩)) rfl (by kernel_rfl) (by kernel_rfl) (by kernel_rfl) (fun _ _ _ h => h) (Or.inl ⟨by rfl, ?_⟩) hHeld ?_
  · intro w' hSw
    obtain ⟨z1, z2, -⟩ := hSw
    have y34 : w'.cell? ⟨W.heap.size + 1, 34, none⟩ = some (.int .i64 L0) := (z1.cell 34).trans H34.out
    have y33 : w'.cell? ⟨W.heap.size + 1, 33, none⟩ = some (.int .i64 z) := (z1.cell 33).trans H33.out
    have n0 : w'.cell? ⟨w1.heap.size, 0, none⟩ = some (.int .i64 pl) := z2.cell 0
    have n1 : w'.cell? ⟨w1.heap.size, 1, none⟩ = some (.slice av ps.length cv) := z2.cell 1
    clear z1 z2
    go_simp
  simp only [Act.put, List.setIfInBounds_toArray, List.set_cons_zero, List.set_cons_succ]
  refine wpAnyH_take (i := 16) (oi := { dst := some 35, op := Op.load 3 (Operand.tmp 34), type := 3, pos := "weave.go:73", after := #[{ on := 15, ground := Ground.data }, { on := 10, ground := Ground.guard }], guard := some (10, false) }) (v := .int .i64 z) rfl (by kernel_rfl) (by kernel_rfl) (by kernel_rfl) (fun _ _ _ h => h) (Or.inl ⟨by rfl, ?_⟩) hHeld ?_
  · intro w' hSw
    obtain ⟨z1, z2, -⟩ := hSw
    have y34 : w'.cell? ⟨W.heap.size + 1, 34, none⟩ = some (.int .i64 L0) := (z1.cell 34).trans H34.out
    have y33 : w'.cell? ⟨W.heap.size + 1, 33, none⟩ = some (.int .i64 z) := (z1.cell 33).trans H33.out
    have n0 : w'.cell? ⟨w1.heap.size, 0, none⟩ = some (.int .i64 pl) := z2.cell 0
    have n1 : w'.cell? ⟨w1.heap.size, 1, none⟩ = some (.slice av ps.length cv) := z2.cell 1
    clear z1 z2
    go_simp
  simp only [Act.put, List.setIfInBounds_toArray, List.set_cons_zero, List.set_cons_succ]
  refine wpAnyH_ready (rs := [12]) (by kernel_rfl) (by simp) (AllReadyH.cons rfl (fun K hK => ?_) AllReadyH.nil)
  go_simp
  refine (HSIZE.out _ HS0.out.2.2.1).mono ?_
  rintro e w4 ⟨rfl, hb4⟩
  dsimp only
  have HS1 := Lib.hid (HS0.out.below hbs hb4)
  refine hK.out _ _ HS1.out (fun hH1 => ?_)
  clear hK K hb4
  refine wpAnyH_take (i := 17) (oi := { dst := some 36, op := Op.binOp BinOp.neq 3 (Operand.tmp 31) (Operand.tmp 35) 3, type := 4, pos := "weave.go:73", after := #[{ on := 12, ground := Ground.data }, { on := 16, ground := Ground.data }, { on := 10, ground := Ground.guard }], guard := some (10, false) }) (v := .bool true) rfl (by kernel_rfl) (by kernel_rfl) (by kernel_rfl) (fun _ _ _ h => h) (Or.inl ⟨by rfl, ?_⟩) hH1 ?_
  · intro w' hSw
    obtain ⟨z1, z2, -⟩ := hSw
    have y34 : w'.cell? ⟨W.heap.size + 1, 34, none⟩ = some (.int .i64 L0) := (z1.cell 34).trans H34.out
    have y33 : w'.cell? ⟨W.heap.size + 1, 33, none⟩ = some (.int .i64 z) := (z1.cell 33).trans H33.out
    have n0 : w'.cell? ⟨w1.heap.size, 0, none⟩ = some (.int .i64 pl) := z2.cell 0
    have n1 : w'.cell? ⟨w1.heap.size, 1, none⟩ = some (.slice av ps.length cv) := z2.cell 1
    clear z1 z2
    go_simp
  simp only [Act.put, List.setIfInBounds_toArray, List.set_cons_zero, List.set_cons_succ]
  refine wpAnyH_take (i := 18) (oi := { dst := some 37, op := Op.pick (Operand.tmp 29) (Operand.const (Value.bool true)) (Operand.tmp 36), type := 4, pos := "weave.go:73", after := #[{ on := 10, ground := Ground.data }, { on := 17, ground := Ground.data }], guard := none }) (v := .bool true) rfl (by kernel_rfl) (by kernel_rfl) (by kernel_rfl) (fun _ _ _ h => h) (Or.inl ⟨by rfl, ?_⟩) hH1 ?_
  · intro w' hSw
    obtain ⟨z1, z2, -⟩ := hSw
    have y34 : w'.cell? ⟨W.heap.size + 1, 34, none⟩ = some (.int .i64 L0) := (z1.cell 34).trans H34.out
    have y33 : w'.cell? ⟨W.heap.size + 1, 33, none⟩ = some (.int .i64 z) := (z1.cell 33).trans H33.out
    have n0 : w'.cell? ⟨w1.heap.size, 0, none⟩ = some (.int .i64 pl) := z2.cell 0
    have n1 : w'.cell? ⟨w1.heap.size, 1, none⟩ = some (.slice av ps.length cv) := z2.cell 1
    clear z1 z2
    go_simp
  simp only [Act.put, List.setIfInBounds_toArray, List.set_cons_zero, List.set_cons_succ]
  refine wpAnyH_done (by kernel_rfl) ?_ _
  have HSE := Lib.hid HS1.out
  rename_i Kz hKz
  refine hKz _ _ ?_
  go_wp2_with fail
  go_ret
  exact ⟨rfl, HSE.out.2.2.2.2.1, HSE.out.2.2.2.2.2⟩
set_option maxRecDepth 100000 in
set_option maxHeartbeats 600000 in
theorem giveNode_badC (W : World) (wb base g cap : Nat) (vt : Value) (s : Stp) (rest : List Stp) (out : List UInt8) (got : Nat) (t : List UInt8) (h32 : s.1.1.length = 32) (hbs : base ≤ W.heap.size) (h : Wv W wb base (.slice (some ⟨g, 0, none⟩) (rest.length + 1) cap) vt (s :: rest, out, got)) (he : (parseN t).2.2 = 0) (hL : max s.2 0 = 0) (hsum : sumP (parseN t).2.1 ≠ s.1.2) :
    Calls Tryd.prog 51 #[ptr wb, .agg (pdC s).toArray, .string (str t)] W fun e w' => e = .returned (.int .i64 2) ∧ Wv w' wb base (.slice (some ⟨g, 0, none⟩) (rest.length + 1) cap) vt (s :: rest, out, got) ∧ Fr base wb (.slice (some ⟨g, 0, none⟩) (rest.length + 1) cap) vt W w' := by
  have HW := Lib.hid h
  have H34 := Lib.hid (pd_lvl s h32)
  have H33 := Lib.hid (pd_size s h32)
  have HPA := Lib.hid (fun W => parse_own t W)
  have HOK := Lib.hid (parse_ok t he)
  have HSIZE := Lib.hid (show ∀ (w : World) {v : Value}, Pts w v (parseN t).2.1 → Calls Tryd.prog 61 #[.agg #[.int .i64 (parseN t).1, v]] w fun e w' => e = .returned (.int .i64 (sumP (parseN t).2.1)) ∧ Below w.heap.size w w' from fun w v hv => by
    obtain ⟨_, h2, _, h4, _, _⟩ := HOK.out
    obtain ⟨_, _, _, _, c5, _⟩ := chkN_zero h2
    have hs := small_of c5 h4
    exact size_any _ v _ w hv hs.1 hs.2 (by omega))
  obtain ⟨⟨x, z⟩, lv⟩ := s
  simp only at H34 H33 h32 hL hsum
  obtain ⟨P0, hP0⟩ : ∃ c, c = pdC ((x, z), lv) := ⟨_, rfl⟩
  obtain ⟨L0, hL0⟩ : ∃ c, c = max lv 0 := ⟨_, rfl⟩
  obtain ⟨pl, ps, pe, hpn⟩ : ∃ a b c, parseN t = (a, b, c) := ⟨_, _, _, rfl⟩
  rw [hpn] at HPA he HSIZE hsum
  simp only at HPA he HSIZE hL hsum
  subst he
  rw [← hL0] at H34 hL
  rw [← hP0] at H34 H33 ⊢
  clear hpn h hP0 hL0 HOK
  have hd2 : ((L0 : Int) != 0) = false := by simpa using hL
  have hd17 : ((sumP ps : Int) != z) = true := by simpa using hsum
  clear hL hsum
  go_enter Tryd.func51, Tryd.ntmps51
  go_wp2_with fail
  refine (HPA.out _).mono ?_
  rintro e w1 ⟨v, rfl, ⟨hn1, hr1⟩, hb1⟩
  obtain ⟨av, cv, hv, -, -⟩ := hr1.rd
  rw [List.length_map] at hv
  subst hv
  have HGN := Lib.hid (show GN W wb base (.slice (some ⟨g, 0, none⟩) (rest.length + 1) cap) vt (((x, z), lv) :: rest, out, got) P0 w1.heap.size pl (.slice av ps.length cv) ps (w1.alloc (.cells #[.int .i64 pl, .slice av ps.length cv] Tnd)) from
    ⟨((Mem.newAt (W.alloc (.cells #[ptr wb] Tpw)) Tpd P0 (g := W.heap.size + 1) (by simp)).below hb1 (by simp)).alloc _, Mem.new w1 Tnd [.int .i64 pl, .slice av ps.length cv], (show Pts w1 _ ps from ⟨hn1, hr1.rd⟩).below (belowSelf _ _), ⟨(((Mem.new W Tpw [ptr wb]).alloc _).below hb1 (by simp; omega)).alloc _, (hr1.mono (by simp)).below (belowSelf _ _)⟩, ((((HW.out.below (belowSelf W _)).below (belowSelf _ _)).below hb1).below (belowSelf _ _)), Fr.of_below hbs (belowThen (belowThen (belowThen (belowSelf W _) (belowSelf _ _)) hb1) (belowSelf _ _))⟩)
  clear hn1 hr1 hb1 HPA
  go_wp2_with fail
  have HS0 := Lib.hid (show GN W wb base (.slice (some ⟨g, 0, none⟩) (rest.length + 1) cap) vt (((x, z), lv) :: rest, out, got) P0 w1.heap.size pl (.slice av ps.length cv) ps (w1.alloc (.cells #[.int .i64 pl, .slice av ps.length cv] Tnd)).drew from HGN.out.below hbs (below_drewN (Below.refl _ _) 1))
  refine wp_region_held_drew (S := GN W wb base (.slice (some ⟨g, 0, none⟩) (rest.length + 1) cap) vt (((x, z), lv) :: rest, out, got) P0 w1.heap.size pl (.slice av ps.length cv) ps) (by kernel_rfl) HS0.out (fun hHeld => ?_)
  refine wpAnyH_take (i := 0) (oi := { dst := some 19, op := Op.fieldAddr 117 (Operand.tmp 4) 1, type := 0, pos := "weave.go:73", after := #[], guard := none }) (v := .pointer (some ⟨W.heap.size + 1, 34, none⟩)) rfl (by kernel_rfl) (by kernel_rfl) (by kernel_rfl) (fun _ _ _ h => h) (Or.inl ⟨by rfl, ?_⟩) hHeld ?_
  · intro w' hSw
    obtain ⟨z1, z2, -⟩ := hSw
    have y34 : w'.cell? ⟨W.heap.size + 1, 34, none⟩ = some (.int .i64 L0) := (z1.cell 34).trans H34.out
    have y33 : w'.cell? ⟨W.heap.size + 1, 33, none⟩ = some (.int .i64 z) := (z1.cell 33).trans H33.out
    have n0 : w'.cell? ⟨w1.heap.size, 0, none⟩ = some (.int .i64 pl) := z2.cell 0
    have n1 : w'.cell? ⟨w1.heap.size, 1, none⟩ = some (.slice av ps.length cv) := z2.cell 1
    clear z1 z2
    go_simp
  simp only [Act.put, List.setIfInBounds_toArray, List.set_cons_zero, List.set_cons_succ]
  refine wpAnyH_take (i := 1) (oi := { dst := some 20, op := Op.load 3 (Operand.tmp 19), type := 3, pos := "weave.go:73", after := #[{ on := 0, ground := Ground.data }], guard := none }) (v := .int .i64 L0) rfl (by kernel_rfl) (by kernel_rfl) (by kernel_rfl) (fun _ _ _ h => h) (Or.inl ⟨by rfl, ?_⟩) hHeld ?_
  · intro w' hSw
    obtain ⟨z1, z2, -⟩ := hSw
    have y34 : w'.cell? ⟨W.heap.size + 1, 34, none⟩ = some (.int .i64 L0) := (z1.cell 34).trans H34.out
    have y33 : w'.cell? ⟨W.heap.size + 1, 33, none⟩ = some (.int .i64 z) := (z1.cell 33).trans H33.out
    have n0 : w'.cell? ⟨w1.heap.size, 0, none⟩ = some (.int .i64 pl) := z2.cell 0
    have n1 : w'.cell? ⟨w1.heap.size, 1, none⟩ = some (.slice av ps.length cv) := z2.cell 1
    clear z1 z2
    go_simp
  simp only [Act.put, List.setIfInBounds_toArray, List.set_cons_zero, List.set_cons_succ]
  refine wpAnyH_take (i := 2) (oi := { dst := some 21, op := Op.binOp BinOp.neq 3 (Operand.tmp 20) (Operand.const (Value.int IntKind.i64 0)) 3, type := 4, pos := "weave.go:73", after := #[{ on := 1, ground := Ground.data }], guard := none }) (v := .bool false) rfl (by kernel_rfl) (by kernel_rfl) (by kernel_rfl) (fun _ _ _ h => h) (Or.inl ⟨by rfl, ?_⟩) hHeld ?_
  · intro w' hSw
    obtain ⟨z1, z2, -⟩ := hSw
    have y34 : w'.cell? ⟨W.heap.size + 1, 34, none⟩ = some (.int .i64 L0) := (z1.cell 34).trans H34.out
    have y33 : w'.cell? ⟨W.heap.size + 1, 33, none⟩ = some (.int .i64 z) := (z1.cell 33).trans H33.out
    have n0 : w'.cell? ⟨w1.heap.size, 0, none⟩ = some (.int .i64 pl) := z2.cell 0
    have n1 : w'.cell? ⟨w1.heap.size, 1, none⟩ = some (.slice av ps.length cv) := z2.cell 1
    clear z1 z2
    go_simp
  simp only [Act.put, List.setIfInBounds_toArray, List.set_cons_zero, List.set_cons_succ]
  refine wpAnyH_take (i := 3) (oi := { dst := some 22, op := Op.move (Operand.tmp 21), type := 4, pos := "weave.go:73", after := #[{ on := 2, ground := Ground.data }], guard := none }) (v := .bool false) rfl (by kernel_rfl) (by kernel_rfl) (by kernel_rfl) (fun _ _ _ h => h) (Or.inl ⟨by rfl, ?_⟩) hHeld ?_
  · intro w' hSw
    obtain ⟨z1, z2, -⟩ := hSw
    have y34 : w'.cell? ⟨W.heap.size + 1, 34, none⟩ = some (.int .i64 L0) := (z1.cell 34).trans H34.out
    have y33 : w'.cell? ⟨W.heap.size + 1, 33, none⟩ = some (.int .i64 z) := (z1.cell 33).trans H33.out
    have n0 : w'.cell? ⟨w1.heap.size, 0, none⟩ = some (.int .i64 pl) := z2.cell 0
    have n1 : w'.cell? ⟨w1.heap.size, 1, none⟩ = some (.slice av ps.length cv) := z2.cell 1
    clear z1 z2
    go_simp
  simp only [Act.put, List.setIfInBounds_toArray, List.set_cons_zero, List.set_cons_succ]
  refine wpAnyH_take (i := 4) (oi := { dst := some 23, op := Op.fieldAddr 25 (Operand.tmp 7) 0, type := 0, pos := "weave.go:73", after := #[{ on := 3, ground := Ground.guard }], guard := some (3, true) }) (v := undef) rfl (by kernel_rfl) (by kernel_rfl) (by kernel_rfl) (fun _ _ _ h => h) (Or.inr ⟨by rfl, rfl⟩) hHeld ?_
  simp only [Act.put, List.setIfInBounds_toArray, List.set_cons_zero, List.set_cons_succ]
  refine wpAnyH_take (i := 5) (oi := { dst := some 24, op := Op.load 3 (Operand.tmp 23), type := 3, pos := "weave.go:73", after := #[{ on := 4, ground := Ground.data }, { on := 3, ground := Ground.guard }], guard := some (3, true) }) (v := undef) rfl (by kernel_rfl) (by kernel_rfl) (by kernel_rfl) (fun _ _ _ h => h) (Or.inr ⟨by rfl, rfl⟩) hHeld ?_
  simp only [Act.put, List.setIfInBounds_toArray, List.set_cons_zero, List.set_cons_succ]
  refine wpAnyH_take (i := 6) (oi := { dst := some 25, op := Op.fieldAddr 117 (Operand.tmp 4) 1, type := 0, pos := "weave.go:73", after := #[{ on := 3, ground := Ground.guard }], guard := some (3, true) }) (v := undef) rfl (by kernel_rfl) (by kernel_rfl) (by kernel_rfl) (fun _ _ _ h => h) (Or.inr ⟨by rfl, rfl⟩) hHeld ?_
  simp only [Act.put, List.setIfInBounds_toArray, List.set_cons_zero, List.set_cons_succ]
  refine wpAnyH_take (i := 7) (oi := { dst := some 26, op := Op.load 3 (Operand.tmp 25), type := 3, pos := "weave.go:73", after := #[{ on := 6, ground := Ground.data }, { on := 3, ground := Ground.guard }], guard := some (3, true) }) (v := undef) rfl (by kernel_rfl) (by kernel_rfl) (by kernel_rfl) (fun _ _ _ h => h) (Or.inr ⟨by rfl, rfl⟩) hHeld ?_
  simp only [Act.put, List.setIfInBounds_toArray, List.set_cons_zero, List.set_cons_succ]
  refine wpAnyH_take (i := 8) (oi := { dst := some 27, op := Op.binOp BinOp.neq 3 (Operand.tmp 24) (Operand.tmp 26) 3, type := 4, pos := "weave.go:73", after := #[{ on := 5, ground := Ground.data }, { on := 7, ground := Ground.data }, { on := 3, ground := Ground.guard }], guard := some (3, true) }) (v := undef) rfl (by kernel_rfl) (by kernel_rfl) (by kernel_rfl) (fun _ _ _ h => h) (Or.inr ⟨by rfl, rfl⟩) hHeld ?_
  simp only [Act.put, List.setIfInBounds_toArray, List.set_cons_zero, List.set_cons_succ]
  refine wpAnyH_take (i := 9) (oi := { dst := some 28, op := Op.pick (Operand.tmp 22) (Operand.tmp 27) (Operand.const (Value.bool false)), type := 4, pos := "weave.go:73", after := #[{ on := 3, ground := Ground.data }, { on := 8, ground := Ground.data }], guard := none }) (v := .bool false) rfl (by kernel_rfl) (by kernel_rfl) (by kernel_rfl) (fun _ _ _ h => h) (Or.inl ⟨by rfl, ?_⟩) hHeld ?_
  · intro w' hSw
    obtain ⟨z1, z2, -⟩ := hSw
    have y34 : w'.cell? ⟨W.heap.size + 1, 34, none⟩ = some (.int .i64 L0) := (z1.cell 34).trans H34.out
    have y33 : w'.cell? ⟨W.heap.size + 1, 33, none⟩ = some (.int .i64 z) := (z1.cell 33).trans H33.out
    have n0 : w'.cell? ⟨w1.heap.size, 0, none⟩ = some (.int .i64 pl) := z2.cell 0
    have n1 : w'.cell? ⟨w1.heap.size, 1, none⟩ = some (.slice av ps.length cv) := z2.cell 1
    clear z1 z2
    go_simp
  simp only [Act.put, List.setIfInBounds_toArray, List.set_cons_zero, List.set_cons_succ]
  refine wpAnyH_take (i := 10) (oi := { dst := some 29, op := Op.move (Operand.tmp 28), type := 4, pos := "weave.go:73", after := #[{ on := 9, ground := Ground.data }, { on := 3, ground := Ground.chain }], guard := none }) (v := .bool false) rfl (by kernel_rfl) (by kernel_rfl) (by kernel_rfl) (fun _ _ _ h => h) (Or.inl ⟨by rfl, ?_⟩) hHeld ?_
  · intro w' hSw
    obtain ⟨z1, z2, -⟩ := hSw
    have y34 : w'.cell? ⟨W.heap.size + 1, 34, none⟩ = some (.int .i64 L0) := (z1.cell 34).trans H34.out
    have y33 : w'.cell? ⟨W.heap.size + 1, 33, none⟩ = some (.int .i64 z) := (z1.cell 33).trans H33.out
    have n0 : w'.cell? ⟨w1.heap.size, 0, none⟩ = some (.int .i64 pl) := z2.cell 0
    have n1 : w'.cell? ⟨w1.heap.size, 1, none⟩ = some (.slice av ps.length cv) := z2.cell 1
    clear z1 z2
    go_simp
  simp only [Act.put, List.setIfInBounds_toArray, List.set_cons_zero, List.set_cons_succ]
  refine wpAnyH_take (i := 11) (oi := { dst := some 30, op := Op.load 25 (Operand.tmp 7), type := 25, pos := "weave.go:73", after := #[{ on := 10, ground := Ground.guard }], guard := some (10, false) }) (v := .agg #[.int .i64 pl, .slice av ps.length cv]) rfl (by kernel_rfl) (by kernel_rfl) (by kernel_rfl) (fun _ _ _ h => h) (Or.inl ⟨by rfl, ?_⟩) hHeld ?_
  · intro w' hSw
    obtain ⟨z1, z2, -⟩ := hSw
    have y34 : w'.cell? ⟨W.heap.size + 1, 34, none⟩ = some (.int .i64 L0) := (z1.cell 34).trans H34.out
    have y33 : w'.cell? ⟨W.heap.size + 1, 33, none⟩ = some (.int .i64 z) := (z1.cell 33).trans H33.out
    have n0 : w'.cell? ⟨w1.heap.size, 0, none⟩ = some (.int .i64 pl) := z2.cell 0
    have n1 : w'.cell? ⟨w1.heap.size, 1, none⟩ = some (.slice av ps.length cv) := z2.cell 1
    clear z1 z2
    go_simp
  simp only [Act.put, List.setIfInBounds_toArray, List.set_cons_zero, List.set_cons_succ]
  refine wpAnyH_take (i := 13) (oi := { dst := some 32, op := Op.fieldAddr 117 (Operand.tmp 4) 0, type := 0, pos := "weave.go:73", after := #[{ on := 10, ground := Ground.guard }], guard := some (10, false) }) (v := .pointer (some ⟨W.heap.size + 1, 0, none⟩)) rfl (by kernel_rfl) (by kernel_rfl) (by kernel_rfl) (fun _ _ _ h => h) (Or.inl ⟨by rfl, ?_⟩) hHeld ?_
  · intro w' hSw
    obtain ⟨z1, z2, -⟩ := hSw
    have y34 : w'.cell? ⟨W.heap.size + 1, 34, none⟩ = some (.int .i64 L0) := (z1.cell 34).trans H34.out
    have y33 : w'.cell? ⟨W.heap.size + 1, 33, none⟩ = some (.int .i64 z) := (z1.cell 33).trans H33.out
    have n0 : w'.cell? ⟨w1.heap.size, 0, none⟩ = some (.int .i64 pl) := z2.cell 0
    have n1 : w'.cell? ⟨w1.heap.size, 1, none⟩ = some (.slice av ps.length cv) := z2.cell 1
    clear z1 z2
    go_simp
  simp only [Act.put, List.setIfInBounds_toArray, List.set_cons_zero, List.set_cons_succ]
  refine wpAnyH_take (i := 14) (oi := { dst := some 33, op := Op.fieldAddr 113 (Operand.tmp 32) 1, type := 0, pos := "weave.go:73", after := #[{ on := 13, ground := Ground.data }, { on := 10, ground := Ground.guard }], guard := some (10, false) }) (v := .pointer (some ⟨W.heap.size + 1, 1, none⟩)) rfl (by kernel_rfl) (by kernel_rfl) (by kernel_rfl) (fun _ _ _ h => h) (Or.inl ⟨by rfl, ?_⟩) hHeld ?_
  · intro w' hSw
    obtain ⟨z1, z2, -⟩ := hSw
    have y34 : w'.cell? ⟨W.heap.size + 1, 34, none⟩ = some (.int .i64 L0) := (z1.cell 34).trans H34.out
    have y33 : w'.cell? ⟨W.heap.size + 1, 33, none⟩ = some (.int .i64 z) := (z1.cell 33).trans H33.out
    have n0 : w'.cell? ⟨w1.heap.size, 0, none⟩ = some (.int .i64 pl) := z2.cell 0
    have n1 : w'.cell? ⟨w1.heap.size, 1, none⟩ = some (.slice av ps.length cv) := z2.cell 1
    clear z1 z2
    go_simp
  simp only [Act.put, List.setIfInBounds_toArray, List.set_cons_zero, List.set_cons_succ]
  refine wpAnyH_take (i := 15) (oi := { dst := some 34, op := Op.fieldAddr 43 (Operand.tmp 33) 1, type := 0, pos := "weave.go:73", after := #[{ on := 14, ground := Ground.data }, { on := 10, ground := Ground.guard }], guard := some (10, false) }) (v := .pointer (some ⟨W.heap.size + 1, 33, none⟩)) rfl (by kernel_rfl) (by kernel_rfl) (by kernel_rfl) (fun _ _ _ h => h) (Or.inl ⟨by rfl, ?_⟩) hHeld ?_
  · intro w' hSw
    obtain ⟨z1, z2, -⟩ := hSw
    have y34 : w'.cell? ⟨W.heap.size + 1, 34, none⟩ = some (.int .i64 L0) := (z1.cell 34).trans H34.out
    have y33 : w'.cell? ⟨W.heap.size + 1, 33, none⟩ = some (.int .i64 z) := (z1.cell 33).trans H33.out
    have n0 : w'.cell? ⟨w1.heap.size, 0, none⟩ = some (.int .i64 pl) := z2.cell 0
    have n1 : w'.cell? ⟨w1.heap.size, 1, none⟩ = some (.slice av ps.length cv) := z2.cell 1
    clear z1 z2
    go_simp
  simp only [Act.put, List.setIfInBounds_toArray, List.set_cons_zero, List.set_cons_succ]
  refine wpAnyH_take (i := 16) (oi := { dst := some 35, op := Op.load 3 (Operand.tmp 34), type := 3, pos := "weave.go:73", after := #[{ on := 15, ground := Ground.data }, { on := 10, ground := Ground.guard }], guard := some (10, false) }) (v := .int .i64 z) rfl (by kernel_rfl) (by kernel_rfl) (by kernel_rfl) (fun _ _ _ h => h) (Or.inl ⟨by rfl, ?_⟩) hHeld ?_
  · intro w' hSw
    obtain ⟨z1, z2, -⟩ := hSw
    have y34 : w'.cell? ⟨W.heap.size + 1, 34, none⟩ = some (.int .i64 L0) := (z1.cell 34).trans H34.out
    have y33 : w'.cell? ⟨W.heap.size + 1, 33, none⟩ = some (.int .i64 z) := (z1.cell 33).trans H33.out
    have n0 : w'.cell? ⟨w1.heap.size, 0, none⟩ = some (.int .i64 pl) := z2.cell 0
    have n1 : w'.cell? ⟨w1.heap.size, 1, none⟩ = some (.slice av ps.length cv) := z2.cell 1
    clear z1 z2
    go_simp
  simp only [Act.put, List.setIfInBounds_toArray, List.set_cons_zero, List.set_cons_succ]
  refine wpAnyH_ready (rs := [12]) (by kernel_rfl) (by simp) (AllReadyH.cons rfl (fun K hK => ?_) AllReadyH.nil)
  go_simp
  refine (HSIZE.out _ HS0.out.2.2.1).mono ?_
  rintro e w4 ⟨rfl, hb4⟩
  dsimp only
  have HS1 := Lib.hid (HS0.out.below hbs hb4)
  refine hK.out _ _ HS1.out (fun hH1 => ?_)
  clear hK K hb4
  refine wpAnyH_take (i := 17) (oi := { dst := some 36, op := Op.binOp BinOp.neq 3 (Operand.tmp 31) (Operand.tmp 35) 3, type := 4, pos := "weave.go:73", after := #[{ on := 12, ground := Ground.data }, { on := 16, ground := Ground.data }, { on := 10, ground := Ground.guard }], guard := some (10, false) }) (v := .bool true) rfl (by kernel_rfl) (by kernel_rfl) (by kernel_rfl) (fun _ _ _ h => h) (Or.inl ⟨by rfl, ?_⟩) hH1 ?_
  · intro w' hSw
    obtain ⟨z1, z2, -⟩ := hSw
    have y34 : w'.cell? ⟨W.heap.size + 1, 34, none⟩ = some (.int .i64 L0) := (z1.cell 34).trans H34.out
    have y33 : w'.cell? ⟨W.heap.size + 1, 33, none⟩ = some (.int .i64 z) := (z1.cell 33).trans H33.out
    have n0 : w'.cell? ⟨w1.heap.size, 0, none⟩ = some (.int .i64 pl) := z2.cell 0
    have n1 : w'.cell? ⟨w1.heap.size, 1, none⟩ = some (.slice av ps.length cv) := z2.cell 1
    clear z1 z2
    go_simp
  simp only [Act.put, List.setIfInBounds_toArray, List.set_cons_zero, List.set_cons_succ]
  refine wpAnyH_take (i := 18) (oi := { dst := some 37, op := Op.pick (Operand.tmp 29) (Operand.const (Value.bool true)) (Operand.tmp 36), type := 4, pos := "weave.go:73", after := #[{ on := 10, ground := Ground.data }, { on := 17, ground := Ground.data }], guard := none }) (v := .bool true) rfl (by kernel_rfl) (by kernel_rfl) (by kernel_rfl) (fun _ _ _ h => h) (Or.inl ⟨by rfl, ?_⟩) hH1 ?_
  · intro w' hSw
    obtain ⟨z1, z2, -⟩ := hSw
    have y34 : w'.cell? ⟨W.heap.size + 1, 34, none⟩ = some (.int .i64 L0) := (z1.cell 34).trans H34.out
    have y33 : w'.cell? ⟨W.heap.size + 1, 33, none⟩ = some (.int .i64 z) := (z1.cell 33).trans H33.out
    have n0 : w'.cell? ⟨w1.heap.size, 0, none⟩ = some (.int .i64 pl) := z2.cell 0
    have n1 : w'.cell? ⟨w1.heap.size, 1, none⟩ = some (.slice av ps.length cv) := z2.cell 1
    clear z1 z2
    go_simp
  simp only [Act.put, List.setIfInBounds_toArray, List.set_cons_zero, List.set_cons_succ]
  refine wpAnyH_done (by kernel_rfl) ?_ _
  have HSE := Lib.hid HS1.out
  rename_i Kz hKz
  refine hKz _ _ ?_
  go_wp2_with fail
  go_ret
  exact ⟨rfl, HSE.out.2.2.2.2.1, HSE.out.2.2.2.2.2⟩
end Go.Proofs.YtjdhcanblpifcaaDoor
