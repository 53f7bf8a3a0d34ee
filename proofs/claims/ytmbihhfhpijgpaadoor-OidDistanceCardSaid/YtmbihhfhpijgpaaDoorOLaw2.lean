/-
  OidDistance: the walk.
-/
import Derived.Test.YtmbihhfhpijgpaaDoorOid10
import Derived.Test.YtmbihhfhpijgpaaDoorOid18
namespace Go.Proofs.YtmbihhfhpijgpaaDoor
open Go.RowKit Crv

/-- Four names in memory. -/
def FourD (w : World) (b d : Nat) (x y z v : List UInt8) : Prop := Three w b x y z ∧ Mem w d TI (v.map byteV)
theorem FourD.below {w w' : World} {b d : Nat} {x y z v : List UInt8} (h : FourD w b d x y z v) (hb : Below w.heap.size w w') : FourD w' b d x y z v := ⟨h.1.below hb, h.2.below hb h.2.lt⟩

attribute [local go_sem ↓] ld_id
set_option maxHeartbeats 4000000 in
set_option maxRecDepth 100000 in
theorem oidDistance_walk (a b c : List UInt8) (w : World) (hc : Consts w) :
    Calls Tryd.prog 8 #[.string (str a), .string (str b), .string (str c)] w fun e w' => e = .returned (.bool true) ∧ Below w.heap.size w w' := by
  have HC := Lib.hid hc
  clear hc
  have HNA := Lib.hid (name_any a)
  have HNB := Lib.hid (name_any b)
  have HNC := Lib.hid (name_any c)
  obtain ⟨x, hx⟩ : ∃ x, x = nameOf a := ⟨_, rfl⟩
  obtain ⟨y, hy⟩ : ∃ y, y = nameOf b := ⟨_, rfl⟩
  obtain ⟨z, hz⟩ : ∃ z, z = nameOf c := ⟨_, rfl⟩
  have lx : x.length = 32 := by rw [hx]; exact length_nameOf _
  have ly : y.length = 32 := by rw [hy]; exact length_nameOf _
  have lz : z.length = 32 := by rw [hz]; exact length_nameOf _
  rw [← hx] at HNA
  rw [← hy] at HNB
  rw [← hz] at HNC
  clear hx hy hz
  have SX := Lib.hid (sz_id x lx)
  have SY := Lib.hid (sz_id y ly)
  have SZ := Lib.hid (sz_id z lz)
  have OX := Lib.hid (one_bytes x)
  have OY := Lib.hid (one_bytes y)
  have OZ := Lib.hid (one_bytes z)
  have HZX := Lib.hid (show (List.replicate 32 (byteV 0)).length = (x.map byteV).length by rw [List.length_map, lx]; rfl)
  have HZY := Lib.hid (show (List.replicate 32 (byteV 0)).length = (y.map byteV).length by rw [List.length_map, ly]; rfl)
  have HZZ := Lib.hid (show (List.replicate 32 (byteV 0)).length = (z.map byteV).length by rw [List.length_map, lz]; rfl)
  have LX := Lib.hid lx
  have LY := Lib.hid ly
  have LZ := Lib.hid lz
  have HXY := Lib.hid (fun W => xor_any x y W lx ly)
  have HYX := Lib.hid (fun W => xor_any y x W ly lx)
  rw [← xorOf_comm x y lx ly] at HYX
  have HVIA := Lib.hid (xorOf_via x y z lx ly lz)
  have HBK := Lib.hid (xorOf_back x y lx ly)
  have HZE := Lib.hid (xorOf_zero x y lx ly)
  have ld := length_xorOf x y lx ly
  obtain ⟨d, hd⟩ : ∃ d, d = xorOf x y := ⟨_, rfl⟩
  rw [← hd] at HXY HYX HVIA HBK HZE ld
  have HDY := Lib.hid (fun W => xor_any d y W ld ly)
  rw [HBK.out] at HDY
  clear hd
  obtain ⟨β, hβ⟩ : ∃ β : Bool, β = decide (x = y) := ⟨_, rfl⟩
  have q1 : ∀ W, (binOp .eql TI (.agg (x.map byteV).toArray) (.agg (y.map byteV).toArray)).run Tryd.prog W = .ok (.bool β) W := fun W => by
    rw [hβ]
    exact run_eql_bytes (P := Tryd.prog) TI 5 32 Tryd.underlying39 Tryd.underlying5 (by kernel_rfl) x y lx ly W
  have q2 : ∀ W, (binOp .eql TI (.agg (d.map byteV).toArray) (.agg zs32)).run Tryd.prog W = .ok (.bool β) W := fun W => by
    have h := run_eql_bytes (P := Tryd.prog) TI 5 32 Tryd.underlying39 Tryd.underlying5 (by kernel_rfl) d (List.replicate 32 0) ld rfl W
    rw [hβ, ← decide_eq_decide.2 HZE.out]
    exact h
  have q3 : ∀ W, (binOp .neq TI (.agg (d.map byteV).toArray) (.agg (d.map byteV).toArray)).run Tryd.prog W = .ok (.bool false) W := fun W => by
    have h := run_neq_bytes (P := Tryd.prog) TI 5 32 Tryd.underlying39 Tryd.underlying5 (by kernel_rfl) d d ld ld W
    simp only [decide_true, Bool.not_true] at h
    exact h
  have q4 : ∀ W, (binOp .neq TI (.agg (x.map byteV).toArray) (.agg (x.map byteV).toArray)).run Tryd.prog W = .ok (.bool false) W := fun W => by
    have h := run_neq_bytes (P := Tryd.prog) TI 5 32 Tryd.underlying39 Tryd.underlying5 (by kernel_rfl) x x lx lx W
    simp only [decide_true, Bool.not_true] at h
    exact h
  have HNF := Lib.hid (near_far z x y lz lx ly)
  have HNEAR := Lib.hid (fun W => closer_any z x y W lz lx ly)
  have HFAR := Lib.hid (fun W => closer_any z y x W lz ly lx)
  obtain ⟨near, hnear⟩ : ∃ n, n = decide (cmpOf (xorOf z x) (xorOf z y) < 0) := ⟨_, rfl⟩
  obtain ⟨far, hfar⟩ : ∃ n, n = decide (cmpOf (xorOf z y) (xorOf z x) < 0) := ⟨_, rfl⟩
  rw [← hβ, ← hnear, ← hfar] at HNF
  rw [← hnear] at HNEAR
  rw [← hfar] at HFAR
  clear hβ hnear hfar
  have HXZ := Lib.hid (fun W => xor_any x z W lx lz)
  have HVZY := Lib.hid (fun W => xor_any z y W lz ly)
  have HVV := Lib.hid (fun W => xor_any (xorOf x z) (xorOf z y) W (length_xorOf x z lx lz) (length_xorOf z y lz ly))
  rw [HVIA.out] at HVV
  obtain ⟨u1, hu1⟩ : ∃ u, u = xorOf x z := ⟨_, rfl⟩
  obtain ⟨u2, hu2⟩ : ∃ u, u = xorOf z y := ⟨_, rfl⟩
  rw [← hu1] at HXZ HVV
  rw [← hu2] at HVZY HVV
  clear hu1 hu2 HVIA
  have HSXY := Lib.hid (fun W => shared_any x y W lx ly)
  have HSXZ := Lib.hid (fun W => shared_any x z W lx lz)
  have HSZY := Lib.hid (fun W => shared_any z y W lz ly)
  have HS3 := Lib.hid (shared_three x y z)
  have HS1 := Lib.hid (shared_le x z)
  have HS2 := Lib.hid (shared_le z y)
  obtain ⟨n1, hn1⟩ : ∃ n, n = sharedOf x y := ⟨_, rfl⟩
  obtain ⟨n2, hn2⟩ : ∃ n, n = sharedOf x z := ⟨_, rfl⟩
  obtain ⟨n3, hn3⟩ : ∃ n, n = sharedOf z y := ⟨_, rfl⟩
  rw [← hn1] at HSXY HS3
  rw [← hn2] at HSXZ HS3 HS1
  rw [← hn3] at HSZY HS3 HS2
  clear hn1 hn2 hn3
  have SD := Lib.hid (sz_id d ld)
  have OD := Lib.hid (one_bytes d)
  have HZD := Lib.hid (show (List.replicate 32 (byteV 0)).length = (d.map byteV).length by rw [List.length_map, ld]; rfl)
  have LD := Lib.hid ld
  clear ld
  clear lx ly lz
  go_enter Tryd.func8, Tryd.ntmps8
  go_wp2_with fail
  refine (HNA.out _).mono ?_
  rintro e w1 ⟨rfl, hb1⟩
  go_wp2_with fail
  refine (HNB.out _).mono ?_
  rintro e w2 ⟨rfl, hb2⟩
  have hb02 := belowThen hb1 hb2
  clear hb1 hb2
  go_wp2_with fail
  refine (HNC.out _).mono ?_
  rintro e w3 ⟨rfl, hb3⟩
  have hb03 := belowThen hb02 hb3
  clear hb3 hb02
  obtain ⟨B, hB⟩ : ∃ B, B = w3.heap.size := ⟨_, rfl⟩
  go_wp2_with (first
    | (refine wp_store_gen (B := w3.heap.size) (w0 := w3) ((((Below.refl _ _).alloc (Nat.le_refl _) _).alloc (by simp) _).alloc (by simp; omega) _) (Nat.le_refl _) (((Mem.newAt w3 TI (List.replicate 32 (byteV 0)) rfl).alloc _).alloc _) (x.map byteV) TI (.tmp 7) (.tmp 14) rfl rfl rfl rfl SX.out HZX.out OX.out ?_
       intro W1 hm1 hk1b hz1 hk1
       have HX1 := Lib.hid hm1
       have HY1 := Lib.hid (show Mem W1 (w3.heap.size + 1) TI (List.replicate 32 (byteV 0)) from (hk1 _ (by omega)).trans ((Mem.newAt (w3.alloc _) TI (List.replicate 32 (byteV 0)) (by simp)).alloc _))
       have HZ1 := Lib.hid (show Mem W1 (w3.heap.size + 1 + 1) TI (List.replicate 32 (byteV 0)) from (hk1 _ (by omega)).trans (Mem.newAt _ TI (List.replicate 32 (byteV 0)) (by simp)))
       clear hm1 hz1 hk1)
    | (refine wp_store_gen (B := w3.heap.size) (w0 := w3) hk1b (Nat.le_succ _) HY1.out (y.map byteV) TI (.tmp 8) (.tmp 16) rfl rfl rfl rfl SY.out HZY.out OY.out ?_
       intro W2 hm2 hk2b hz2 hk2
       have HX2 := Lib.hid (show Mem W2 w3.heap.size TI (x.map byteV) from (hk2 _ (by omega)).trans HX1.out)
       have HY2 := Lib.hid hm2
       have HZ2 := Lib.hid (show Mem W2 (w3.heap.size + 1 + 1) TI (List.replicate 32 (byteV 0)) from (hk2 _ (by omega)).trans HZ1.out)
       clear hm2 hz2 hk2 HX1 HY1 HZ1 hk1b)
    | (refine wp_store_gen (B := w3.heap.size) (w0 := w3) hk2b (Nat.le_succ_of_le (Nat.le_succ _)) HZ2.out (z.map byteV) TI (.tmp 9) (.tmp 18) rfl rfl rfl rfl SZ.out HZZ.out OZ.out ?_
       intro W3 hm3 hk3b hz3 hk3
       have HT3 := Lib.hid (show Three W3 w3.heap.size x y z from ⟨(hk3 _ (by omega)).trans HX2.out, (hk3 _ (by simp)).trans HY2.out, hm3⟩)
       have hb0 := belowThen hb03 hk3b
       have l1 := ld_id_at HT3.out.1 LX.out
       have l2 := ld_id_at HT3.out.2.1 LY.out
       clear hm3 hz3 hk3 HX2 HY2 HZ2 hk2b hk3b)
    | fail)
  rw [← hB] at HT3
  rw [← hB]
  clear hB hb03 l1 l2
  refine (HXY.out _).mono ?_
  rintro e w4 ⟨rfl, hb4⟩
  have HT4 := Lib.hid (HT3.out.below hb4)
  have hb04 := belowThen hb0 hb4
  clear hb0 hb4 HT3
  obtain ⟨D, hD⟩ : ∃ D, D = w4.heap.size := ⟨_, rfl⟩
  go_wp2_with (first
    | (refine wp_store_gen (B := w4.heap.size) (w0 := w4) (belowSelf w4 _) (Nat.le_refl _) (Mem.newAt w4 TI (List.replicate 32 (byteV 0)) rfl) (d.map byteV) TI (.tmp 10) (.tmp 21) rfl rfl rfl rfl SD.out HZD.out OD.out ?_
       intro W5 hm5 hb5 hz5 hk5
       have HF5 := Lib.hid (show FourD W5 B w4.heap.size x y z d from ⟨HT4.out.below hb5, hm5⟩)
       have hb05 := belowThen hb04 hb5
       clear hm5 hb5 hz5 hk5 HT4 hb04)
    | fail)
  rw [← hD] at HF5
  rw [← hD]
  clear hD
  have hb0d : Below w.heap.size w W5.drew := below_drewN hb05 1
  have HF5D := Lib.hid (show FourD W5.drew B D x y z d from HF5.out)
  clear hb05 HF5
  refine wp_region_held_drew (S := fun w' => FourD w' B D x y z d) (by kernel_rfl) HF5D.out (fun hHeld => ?_)
  refine wpAnyH_ready (rs := [0]) (by kernel_rfl) (by simp) (AllReadyH.cons rfl (fun K hK => ?_) AllReadyH.nil)
  go_simp
  refine (awake2_any _ (HC.out.below hb0d)).mono ?_
  rintro e w6 ⟨rfl, hb6⟩
  dsimp only
  refine hK.out _ _ (FourD.below hHeld hb6) (fun hHeld1 => ?_)
  clear hK K
  have hb06 := belowThen hb0d hb6
  clear hb0d hb6 hHeld HF5D
  refine wpAnyH_ready (rs := [1]) (by kernel_rfl) (by simp) (AllReadyH.cons rfl (fun K hK => ?_) AllReadyH.nil)
  go_simp
  refine hK.out _ _ hHeld1 (fun hHeld2 => ?_)
  clear hK K
  refine wpAnyH_ready (rs := [2]) (by kernel_rfl) (by simp) (AllReadyH.cons rfl (fun K hK => ?_) AllReadyH.nil)
  go_simp
  refine hK.out _ _ hHeld1 (fun hHeld3 => ?_)
  clear hK K hHeld2 hHeld3
  refine wpAnyH_take (i := 3) (oi := { dst := some 25, op := Op.load TI (Operand.tmp 10), type := TI, pos := "law.go:54", after := #[{ on := 2, ground := Ground.guard }], guard := some (2, false) }) (v := _) rfl (by kernel_rfl) (by kernel_rfl) (by kernel_rfl) (fun _ _ _ h => h) (yieldsIf_load_mid (by rfl) TI (.tmp 10) rfl D 0 rfl (d.map byteV) (.array 32 5) (fun w hS => hS.2.range 0 _ ⟨[], by simp⟩) Tryd.underlying39 rfl SD.out) hHeld1 ?_
  simp only [Act.put, List.setIfInBounds_toArray, List.set_cons_zero, List.set_cons_succ]
  refine wpAnyH_take (i := 6) (oi := { dst := some 28, op := Op.load TI (Operand.tmp 7), type := TI, pos := "law.go:54", after := #[{ on := 2, ground := Ground.guard }], guard := some (2, false) }) (v := _) rfl (by kernel_rfl) (by kernel_rfl) (by kernel_rfl) (fun _ _ _ h => h) (yieldsIf_load_mid (by rfl) TI (.tmp 7) rfl B 0 rfl (x.map byteV) (.array 32 5) (fun w hS => hS.1.1.range 0 _ ⟨[], by simp⟩) Tryd.underlying39 rfl SX.out) hHeld1 ?_
  simp only [Act.put, List.setIfInBounds_toArray, List.set_cons_zero, List.set_cons_succ]
  refine wpAnyH_take (i := 7) (oi := { dst := some 29, op := Op.load TI (Operand.tmp 8), type := TI, pos := "law.go:54", after := #[{ on := 2, ground := Ground.guard }], guard := some (2, false) }) (v := _) rfl (by kernel_rfl) (by kernel_rfl) (by kernel_rfl) (fun _ _ _ h => h) (yieldsIf_load_mid (by rfl) TI (.tmp 8) rfl (B + 1) 0 rfl (y.map byteV) (.array 32 5) (fun w hS => hS.1.2.1.range 0 _ ⟨[], by simp⟩) Tryd.underlying39 rfl SY.out) hHeld1 ?_
  simp only [Act.put, List.setIfInBounds_toArray, List.set_cons_zero, List.set_cons_succ]
  refine wpAnyH_take (i := 4) (oi := { dst := some 26, op := Op.build TI #[], type := TI, pos := "law.go:54", after := #[{ on := 2, ground := Ground.guard }], guard := some (2, false) }) (v := .agg zs32) rfl (by kernel_rfl) (by kernel_rfl) (by kernel_rfl) (fun _ _ _ h => h) (Or.inl ⟨by rfl, fun w _ => by kernel_rfl⟩) hHeld1 ?_
  simp only [Act.put, List.setIfInBounds_toArray, List.set_cons_zero, List.set_cons_succ]
  refine wpAnyH_take (i := 5) (oi := { dst := some 27, op := Op.binOp BinOp.eql TI (Operand.tmp 25) (Operand.tmp 26) TI, type := 4, pos := "law.go:54", after := #[{ on := 3, ground := Ground.data }, { on := 4, ground := Ground.data }, { on := 2, ground := Ground.guard }], guard := some (2, false) }) (v := .bool β) rfl (by kernel_rfl) (by kernel_rfl) (by kernel_rfl) (fun _ _ _ h => h) (Or.inl ⟨by rfl, ?_⟩) hHeld1 ?_
  · intro w' hSw
    go_simp
  simp only [Act.put, List.setIfInBounds_toArray, List.set_cons_zero, List.set_cons_succ]
  refine wpAnyH_take (i := 8) (oi := { dst := some 30, op := Op.binOp BinOp.eql TI (Operand.tmp 28) (Operand.tmp 29) TI, type := 4, pos := "law.go:54", after := #[{ on := 6, ground := Ground.data }, { on := 7, ground := Ground.data }, { on := 2, ground := Ground.guard }], guard := some (2, false) }) (v := .bool β) rfl (by kernel_rfl) (by kernel_rfl) (by kernel_rfl) (fun _ _ _ h => h) (Or.inl ⟨by rfl, ?_⟩) hHeld1 ?_
  · intro w' hSw
    go_simp
  simp only [Act.put, List.setIfInBounds_toArray, List.set_cons_zero, List.set_cons_succ]
  refine wpAnyH_take (i := 9) (oi := { dst := some 31, op := Op.binOp BinOp.neq 4 (Operand.tmp 27) (Operand.tmp 30) 4, type := 4, pos := "law.go:54", after := #[{ on := 5, ground := Ground.data }, { on := 8, ground := Ground.data }, { on := 2, ground := Ground.guard }], guard := some (2, false) }) (v := .bool false) rfl (by kernel_rfl) (by kernel_rfl) (by kernel_rfl) (fun _ _ _ h => h) (Or.inl ⟨by rfl, ?_⟩) hHeld1 ?_
  · intro w' hSw
    go_simp
  simp only [Act.put, List.setIfInBounds_toArray, List.set_cons_zero, List.set_cons_succ]
  refine wpAnyH_take (i := 10) (oi := { dst := some 32, op := Op.pick (Operand.tmp 24) (Operand.const (Value.bool true)) (Operand.tmp 31), type := 4, pos := "law.go:54", after := #[{ on := 2, ground := Ground.data }, { on := 9, ground := Ground.data }], guard := none }) (v := .bool false) rfl (by kernel_rfl) (by kernel_rfl) (by kernel_rfl) (fun _ _ _ h => h) (Or.inl ⟨by rfl, ?_⟩) hHeld1 ?_
  · intro w' hSw
    go_simp
  simp only [Act.put, List.setIfInBounds_toArray, List.set_cons_zero, List.set_cons_succ]
  refine wpAnyH_take (i := 11) (oi := { dst := some 33, op := Op.move (Operand.tmp 32), type := 4, pos := "law.go:54", after := #[{ on := 10, ground := Ground.data }, { on := 2, ground := Ground.chain }], guard := none }) (v := .bool false) rfl (by kernel_rfl) (by kernel_rfl) (by kernel_rfl) (fun _ _ _ h => h) (Or.inl ⟨by rfl, ?_⟩) hHeld1 ?_
  · intro w' hSw
    go_simp
  simp only [Act.put, List.setIfInBounds_toArray, List.set_cons_zero, List.set_cons_succ]
  refine wpAnyH_take (i := 12) (oi := { dst := some 34, op := Op.load TI (Operand.tmp 10), type := TI, pos := "law.go:54", after := #[{ on := 11, ground := Ground.guard }], guard := some (11, false) }) (v := _) rfl (by kernel_rfl) (by kernel_rfl) (by kernel_rfl) (fun _ _ _ h => h) (yieldsIf_load_mid (by rfl) TI (.tmp 10) rfl D 0 rfl (d.map byteV) (.array 32 5) (fun w hS => hS.2.range 0 _ ⟨[], by simp⟩) Tryd.underlying39 rfl SD.out) hHeld1 ?_
  simp only [Act.put, List.setIfInBounds_toArray, List.set_cons_zero, List.set_cons_succ]
  refine wpAnyH_take (i := 13) (oi := { dst := some 35, op := Op.load TI (Operand.tmp 8), type := TI, pos := "law.go:54", after := #[{ on := 11, ground := Ground.guard }], guard := some (11, false) }) (v := _) rfl (by kernel_rfl) (by kernel_rfl) (by kernel_rfl) (fun _ _ _ h => h) (yieldsIf_load_mid (by rfl) TI (.tmp 8) rfl (B + 1) 0 rfl (y.map byteV) (.array 32 5) (fun w hS => hS.1.2.1.range 0 _ ⟨[], by simp⟩) Tryd.underlying39 rfl SY.out) hHeld1 ?_
  simp only [Act.put, List.setIfInBounds_toArray, List.set_cons_zero, List.set_cons_succ]
  refine wpAnyH_take (i := 14) (oi := { dst := some 36, op := Op.load TI (Operand.tmp 7), type := TI, pos := "law.go:54", after := #[{ on := 11, ground := Ground.guard }], guard := some (11, false) }) (v := _) rfl (by kernel_rfl) (by kernel_rfl) (by kernel_rfl) (fun _ _ _ h => h) (yieldsIf_load_mid (by rfl) TI (.tmp 7) rfl B 0 rfl (x.map byteV) (.array 32 5) (fun w hS => hS.1.1.range 0 _ ⟨[], by simp⟩) Tryd.underlying39 rfl SX.out) hHeld1 ?_
  simp only [Act.put, List.setIfInBounds_toArray, List.set_cons_zero, List.set_cons_succ]
  refine wpAnyH_ready (rs := [15]) (by kernel_rfl) (by simp) (AllReadyH.cons rfl (fun K hK => ?_) AllReadyH.nil)
  go_simp
  refine (HYX.out _).mono ?_
  rintro e w7 ⟨rfl, hbn⟩
  dsimp only
  refine hK.out _ _ (FourD.below hHeld1 hbn) (fun hHeld4 => ?_)
  clear hK K
  have hb07 := belowThen hb06 hbn
  clear hb06 hbn hHeld1
  refine wpAnyH_take (i := 16) (oi := { dst := some 38, op := Op.binOp BinOp.neq TI (Operand.tmp 34) (Operand.tmp 37) TI, type := 4, pos := "law.go:54", after := #[{ on := 12, ground := Ground.data }, { on := 15, ground := Ground.data }, { on := 11, ground := Ground.guard }], guard := some (11, false) }) (v := .bool false) rfl (by kernel_rfl) (by kernel_rfl) (by kernel_rfl) (fun _ _ _ h => h) (Or.inl ⟨by rfl, ?_⟩) hHeld4 ?_
  · intro w' hSw
    go_simp
  simp only [Act.put, List.setIfInBounds_toArray, List.set_cons_zero, List.set_cons_succ]
  refine wpAnyH_take (i := 17) (oi := { dst := some TI, op := Op.pick (Operand.tmp 33) (Operand.const (Value.bool true)) (Operand.tmp 38), type := 4, pos := "law.go:54", after := #[{ on := 11, ground := Ground.data }, { on := 16, ground := Ground.data }], guard := none }) (v := .bool false) rfl (by kernel_rfl) (by kernel_rfl) (by kernel_rfl) (fun _ _ _ h => h) (Or.inl ⟨by rfl, ?_⟩) hHeld4 ?_
  · intro w' hSw
    go_simp
  simp only [Act.put, List.setIfInBounds_toArray, List.set_cons_zero, List.set_cons_succ]
  refine wpAnyH_take (i := 18) (oi := { dst := some 40, op := Op.move (Operand.tmp TI), type := 4, pos := "law.go:54", after := #[{ on := 17, ground := Ground.data }, { on := 15, ground := Ground.chain }], guard := none }) (v := .bool false) rfl (by kernel_rfl) (by kernel_rfl) (by kernel_rfl) (fun _ _ _ h => h) (Or.inl ⟨by rfl, ?_⟩) hHeld4 ?_
  · intro w' hSw
    go_simp
  simp only [Act.put, List.setIfInBounds_toArray, List.set_cons_zero, List.set_cons_succ]
  refine wpAnyH_take (i := 19) (oi := { dst := some 41, op := Op.load TI (Operand.tmp 7), type := TI, pos := "law.go:54", after := #[{ on := 18, ground := Ground.guard }], guard := some (18, false) }) (v := _) rfl (by kernel_rfl) (by kernel_rfl) (by kernel_rfl) (fun _ _ _ h => h) (yieldsIf_load_mid (by rfl) TI (.tmp 7) rfl B 0 rfl (x.map byteV) (.array 32 5) (fun w hS => hS.1.1.range 0 _ ⟨[], by simp⟩) Tryd.underlying39 rfl SX.out) hHeld4 ?_
  simp only [Act.put, List.setIfInBounds_toArray, List.set_cons_zero, List.set_cons_succ]
  refine wpAnyH_take (i := 20) (oi := { dst := some 42, op := Op.load TI (Operand.tmp 8), type := TI, pos := "law.go:54", after := #[{ on := 18, ground := Ground.guard }], guard := some (18, false) }) (v := _) rfl (by kernel_rfl) (by kernel_rfl) (by kernel_rfl) (fun _ _ _ h => h) (yieldsIf_load_mid (by rfl) TI (.tmp 8) rfl (B + 1) 0 rfl (y.map byteV) (.array 32 5) (fun w hS => hS.1.2.1.range 0 _ ⟨[], by simp⟩) Tryd.underlying39 rfl SY.out) hHeld4 ?_
  simp only [Act.put, List.setIfInBounds_toArray, List.set_cons_zero, List.set_cons_succ]
  refine wpAnyH_take (i := 22) (oi := { dst := some 44, op := Op.load TI (Operand.tmp 8), type := TI, pos := "law.go:54", after := #[{ on := 18, ground := Ground.guard }], guard := some (18, false) }) (v := _) rfl (by kernel_rfl) (by kernel_rfl) (by kernel_rfl) (fun _ _ _ h => h) (yieldsIf_load_mid (by rfl) TI (.tmp 8) rfl (B + 1) 0 rfl (y.map byteV) (.array 32 5) (fun w hS => hS.1.2.1.range 0 _ ⟨[], by simp⟩) Tryd.underlying39 rfl SY.out) hHeld4 ?_
  simp only [Act.put, List.setIfInBounds_toArray, List.set_cons_zero, List.set_cons_succ]
  refine wpAnyH_take (i := 24) (oi := { dst := some 46, op := Op.load TI (Operand.tmp 7), type := TI, pos := "law.go:54", after := #[{ on := 18, ground := Ground.guard }], guard := some (18, false) }) (v := _) rfl (by kernel_rfl) (by kernel_rfl) (by kernel_rfl) (fun _ _ _ h => h) (yieldsIf_load_mid (by rfl) TI (.tmp 7) rfl B 0 rfl (x.map byteV) (.array 32 5) (fun w hS => hS.1.1.range 0 _ ⟨[], by simp⟩) Tryd.underlying39 rfl SX.out) hHeld4 ?_
  simp only [Act.put, List.setIfInBounds_toArray, List.set_cons_zero, List.set_cons_succ]
  refine wpAnyH_ready (rs := [21]) (by kernel_rfl) (by simp) (AllReadyH.cons rfl (fun K hK => ?_) AllReadyH.nil)
  go_simp
  refine (HXY.out _).mono ?_
  rintro e w8 ⟨rfl, hbn⟩
  dsimp only
  refine hK.out _ _ (FourD.below hHeld4 hbn) (fun hHeld5 => ?_)
  clear hK K
  have hb08 := belowThen hb07 hbn
  clear hb07 hbn hHeld4
  refine wpAnyH_ready (rs := [23]) (by kernel_rfl) (by simp) (AllReadyH.cons rfl (fun K hK => ?_) AllReadyH.nil)
  go_simp
  refine (HDY.out _).mono ?_
  rintro e w9 ⟨rfl, hbn⟩
  dsimp only
  refine hK.out _ _ (FourD.below hHeld5 hbn) (fun hHeld6 => ?_)
  clear hK K
  have hb09 := belowThen hb08 hbn
  clear hb08 hbn hHeld5
  refine wpAnyH_take (i := 25) (oi := { dst := some 47, op := Op.binOp BinOp.neq TI (Operand.tmp 45) (Operand.tmp 46) TI, type := 4, pos := "law.go:54", after := #[{ on := 23, ground := Ground.data }, { on := 24, ground := Ground.data }, { on := 18, ground := Ground.guard }], guard := some (18, false) }) (v := .bool false) rfl (by kernel_rfl) (by kernel_rfl) (by kernel_rfl) (fun _ _ _ h => h) (Or.inl ⟨by rfl, ?_⟩) hHeld6 ?_
  · intro w' hSw
    go_simp
  simp only [Act.put, List.setIfInBounds_toArray, List.set_cons_zero, List.set_cons_succ]
  refine wpAnyH_take (i := 26) (oi := { dst := some 48, op := Op.pick (Operand.tmp 40) (Operand.const (Value.bool true)) (Operand.tmp 47), type := 4, pos := "law.go:54", after := #[{ on := 18, ground := Ground.data }, { on := 25, ground := Ground.data }], guard := none }) (v := .bool false) rfl (by kernel_rfl) (by kernel_rfl) (by kernel_rfl) (fun _ _ _ h => h) (Or.inl ⟨by rfl, ?_⟩) hHeld6 ?_
  · intro w' hSw
    go_simp
  simp only [Act.put, List.setIfInBounds_toArray, List.set_cons_zero, List.set_cons_succ]
  refine wpAnyH_done (by kernel_rfl) ?_ _
  rename_i K hK
  refine hK _ _ ?_
  have HF9 := Lib.hid hHeld6
  clear hHeld6
  go_wp2_with fail
  have hb0d : Below w.heap.size w w9.drew := below_drewN hb09 1
  have HF9D := Lib.hid (show FourD w9.drew B D x y z d from HF9.out)
  clear hb09 HF9 q2 q4
  refine wp_region_held_drew (S := fun w' => FourD w' B D x y z d) (by kernel_rfl) HF9D.out (fun hHeld => ?_)
  refine wpAnyH_take (i := 0) (oi := { dst := some 49, op := Op.load TI (Operand.tmp 7), type := TI, pos := "law.go:57", after := #[], guard := none }) (v := _) rfl (by kernel_rfl) (by kernel_rfl) (by kernel_rfl) (fun _ _ _ h => h) (yieldsIf_load_mid (by rfl) TI (.tmp 7) rfl B 0 rfl (x.map byteV) (.array 32 5) (fun w hS => hS.1.1.range 0 _ ⟨[], by simp⟩) Tryd.underlying39 rfl SX.out) hHeld ?_
  simp only [Act.put, List.setIfInBounds_toArray, List.set_cons_zero, List.set_cons_succ]
  refine wpAnyH_take (i := 1) (oi := { dst := some 50, op := Op.load TI (Operand.tmp 9), type := TI, pos := "law.go:57", after := #[], guard := none }) (v := _) rfl (by kernel_rfl) (by kernel_rfl) (by kernel_rfl) (fun _ _ _ h => h) (yieldsIf_load_mid (by rfl) TI (.tmp 9) rfl (B + 1 + 1) 0 rfl (z.map byteV) (.array 32 5) (fun w hS => hS.1.2.2.range 0 _ ⟨[], by simp⟩) Tryd.underlying39 rfl SZ.out) hHeld ?_
  simp only [Act.put, List.setIfInBounds_toArray, List.set_cons_zero, List.set_cons_succ]
  refine wpAnyH_take (i := 3) (oi := { dst := some 52, op := Op.load TI (Operand.tmp 9), type := TI, pos := "law.go:57", after := #[], guard := none }) (v := _) rfl (by kernel_rfl) (by kernel_rfl) (by kernel_rfl) (fun _ _ _ h => h) (yieldsIf_load_mid (by rfl) TI (.tmp 9) rfl (B + 1 + 1) 0 rfl (z.map byteV) (.array 32 5) (fun w hS => hS.1.2.2.range 0 _ ⟨[], by simp⟩) Tryd.underlying39 rfl SZ.out) hHeld ?_
  simp only [Act.put, List.setIfInBounds_toArray, List.set_cons_zero, List.set_cons_succ]
  refine wpAnyH_take (i := 4) (oi := { dst := some 53, op := Op.load TI (Operand.tmp 8), type := TI, pos := "law.go:57", after := #[], guard := none }) (v := _) rfl (by kernel_rfl) (by kernel_rfl) (by kernel_rfl) (fun _ _ _ h => h) (yieldsIf_load_mid (by rfl) TI (.tmp 8) rfl (B + 1) 0 rfl (y.map byteV) (.array 32 5) (fun w hS => hS.1.2.1.range 0 _ ⟨[], by simp⟩) Tryd.underlying39 rfl SY.out) hHeld ?_
  simp only [Act.put, List.setIfInBounds_toArray, List.set_cons_zero, List.set_cons_succ]
  refine wpAnyH_take (i := 7) (oi := { dst := some 56, op := Op.load TI (Operand.tmp 10), type := TI, pos := "law.go:57", after := #[], guard := none }) (v := _) rfl (by kernel_rfl) (by kernel_rfl) (by kernel_rfl) (fun _ _ _ h => h) (yieldsIf_load_mid (by rfl) TI (.tmp 10) rfl D 0 rfl (d.map byteV) (.array 32 5) (fun w hS => hS.2.range 0 _ ⟨[], by simp⟩) Tryd.underlying39 rfl SD.out) hHeld ?_
  simp only [Act.put, List.setIfInBounds_toArray, List.set_cons_zero, List.set_cons_succ]
  refine wpAnyH_ready (rs := [2]) (by kernel_rfl) (by simp) (AllReadyH.cons rfl (fun K hK => ?_) AllReadyH.nil)
  go_simp
  refine (HXZ.out _).mono ?_
  rintro e w10 ⟨rfl, hbn⟩
  dsimp only
  refine hK.out _ _ (FourD.below hHeld hbn) (fun hHeld1 => ?_)
  clear hK K
  have hb10 := belowThen hb0d hbn
  clear hb0d hbn hHeld
  refine wpAnyH_ready (rs := [5]) (by kernel_rfl) (by simp) (AllReadyH.cons rfl (fun K hK => ?_) AllReadyH.nil)
  go_simp
  refine (HVZY.out _).mono ?_
  rintro e w11 ⟨rfl, hbn⟩
  dsimp only
  refine hK.out _ _ (FourD.below hHeld1 hbn) (fun hHeld2 => ?_)
  clear hK K
  have hb11 := belowThen hb10 hbn
  clear hb10 hbn hHeld1
  refine wpAnyH_ready (rs := [6]) (by kernel_rfl) (by simp) (AllReadyH.cons rfl (fun K hK => ?_) AllReadyH.nil)
  go_simp
  refine (HVV.out _).mono ?_
  rintro e w12 ⟨rfl, hbn⟩
  dsimp only
  refine hK.out _ _ (FourD.below hHeld2 hbn) (fun hHeld3 => ?_)
  clear hK K
  have hb12 := belowThen hb11 hbn
  clear hb11 hbn hHeld2
  refine wpAnyH_take (i := 8) (oi := { dst := some 57, op := Op.binOp BinOp.neq TI (Operand.tmp 55) (Operand.tmp 56) TI, type := 4, pos := "law.go:57", after := #[{ on := 6, ground := Ground.data }, { on := 7, ground := Ground.data }], guard := none }) (v := .bool false) rfl (by kernel_rfl) (by kernel_rfl) (by kernel_rfl) (fun _ _ _ h => h) (Or.inl ⟨by rfl, ?_⟩) hHeld3 ?_
  · intro w' hSw
    go_simp
  simp only [Act.put, List.setIfInBounds_toArray, List.set_cons_zero, List.set_cons_succ]
  refine wpAnyH_done (by kernel_rfl) ?_ _
  rename_i K hK
  refine hK _ _ ?_
  have HF12 := Lib.hid hHeld3
  clear hHeld3 q3
  have l1 := ld_id_at HF12.out.1.1 LX.out
  have l2 := ld_id_at HF12.out.1.2.1 LY.out
  have l3 := ld_id_at HF12.out.1.2.2 LZ.out
  go_wp2_with fail
  clear l1 l2 l3
  refine (HNEAR.out _).mono ?_
  rintro e w13 ⟨rfl, hbn⟩
  have HF13 := Lib.hid (FourD.below HF12.out hbn)
  have hb13 := belowThen hb12 hbn
  clear hbn hb12 HF12
  have l1 := ld_id_at HF13.out.1.1 LX.out
  have l2 := ld_id_at HF13.out.1.2.1 LY.out
  have l3 := ld_id_at HF13.out.1.2.2 LZ.out
  go_wp2_with fail
  clear l1 l2 l3
  refine (HFAR.out _).mono ?_
  rintro e w14 ⟨rfl, hbn⟩
  have HF14 := Lib.hid (FourD.below HF13.out hbn)
  have hb14 := belowThen hb13 hbn
  clear hbn hb13 HF13
  go_wp2_with fail
  have hb0d : Below w.heap.size w w14.drew := below_drewN hb14 1
  have HF14D := Lib.hid (show FourD w14.drew B D x y z d from HF14.out)
  clear hb14 HF14
  have h1 := HS1.out
  have h2 := HS2.out
  have h3 := HS3.out
  have hge : decide (min (n2 : Int) (n3 : Int) ≤ (n1 : Int)) = true := by simp; omega
  refine wp_region_held_drew (S := fun w' => FourD w' B D x y z d) (by kernel_rfl) HF14D.out (fun hHeld => ?_)
  refine wpAnyH_take (i := 0) (oi := { dst := some 66, op := Op.load TI (Operand.tmp 7), type := TI, pos := "law.go:62", after := #[], guard := none }) (v := _) rfl (by kernel_rfl) (by kernel_rfl) (by kernel_rfl) (fun _ _ _ h => h) (yieldsIf_load_mid (by rfl) TI (.tmp 7) rfl B 0 rfl (x.map byteV) (.array 32 5) (fun w hS => hS.1.1.range 0 _ ⟨[], by simp⟩) Tryd.underlying39 rfl SX.out) hHeld ?_
  simp only [Act.put, List.setIfInBounds_toArray, List.set_cons_zero, List.set_cons_succ]
  refine wpAnyH_take (i := 1) (oi := { dst := some 67, op := Op.load TI (Operand.tmp 8), type := TI, pos := "law.go:62", after := #[], guard := none }) (v := _) rfl (by kernel_rfl) (by kernel_rfl) (by kernel_rfl) (fun _ _ _ h => h) (yieldsIf_load_mid (by rfl) TI (.tmp 8) rfl (B + 1) 0 rfl (y.map byteV) (.array 32 5) (fun w hS => hS.1.2.1.range 0 _ ⟨[], by simp⟩) Tryd.underlying39 rfl SY.out) hHeld ?_
  simp only [Act.put, List.setIfInBounds_toArray, List.set_cons_zero, List.set_cons_succ]
  refine wpAnyH_take (i := 3) (oi := { dst := some 69, op := Op.load TI (Operand.tmp 7), type := TI, pos := "law.go:62", after := #[], guard := none }) (v := _) rfl (by kernel_rfl) (by kernel_rfl) (by kernel_rfl) (fun _ _ _ h => h) (yieldsIf_load_mid (by rfl) TI (.tmp 7) rfl B 0 rfl (x.map byteV) (.array 32 5) (fun w hS => hS.1.1.range 0 _ ⟨[], by simp⟩) Tryd.underlying39 rfl SX.out) hHeld ?_
  simp only [Act.put, List.setIfInBounds_toArray, List.set_cons_zero, List.set_cons_succ]
  refine wpAnyH_take (i := 4) (oi := { dst := some 70, op := Op.load TI (Operand.tmp 9), type := TI, pos := "law.go:62", after := #[], guard := none }) (v := _) rfl (by kernel_rfl) (by kernel_rfl) (by kernel_rfl) (fun _ _ _ h => h) (yieldsIf_load_mid (by rfl) TI (.tmp 9) rfl (B + 1 + 1) 0 rfl (z.map byteV) (.array 32 5) (fun w hS => hS.1.2.2.range 0 _ ⟨[], by simp⟩) Tryd.underlying39 rfl SZ.out) hHeld ?_
  simp only [Act.put, List.setIfInBounds_toArray, List.set_cons_zero, List.set_cons_succ]
  refine wpAnyH_take (i := 6) (oi := { dst := some 72, op := Op.load TI (Operand.tmp 9), type := TI, pos := "law.go:62", after := #[], guard := none }) (v := _) rfl (by kernel_rfl) (by kernel_rfl) (by kernel_rfl) (fun _ _ _ h => h) (yieldsIf_load_mid (by rfl) TI (.tmp 9) rfl (B + 1 + 1) 0 rfl (z.map byteV) (.array 32 5) (fun w hS => hS.1.2.2.range 0 _ ⟨[], by simp⟩) Tryd.underlying39 rfl SZ.out) hHeld ?_
  simp only [Act.put, List.setIfInBounds_toArray, List.set_cons_zero, List.set_cons_succ]
  refine wpAnyH_take (i := 7) (oi := { dst := some 73, op := Op.load TI (Operand.tmp 8), type := TI, pos := "law.go:62", after := #[], guard := none }) (v := _) rfl (by kernel_rfl) (by kernel_rfl) (by kernel_rfl) (fun _ _ _ h => h) (yieldsIf_load_mid (by rfl) TI (.tmp 8) rfl (B + 1) 0 rfl (y.map byteV) (.array 32 5) (fun w hS => hS.1.2.1.range 0 _ ⟨[], by simp⟩) Tryd.underlying39 rfl SY.out) hHeld ?_
  simp only [Act.put, List.setIfInBounds_toArray, List.set_cons_zero, List.set_cons_succ]
  refine wpAnyH_ready (rs := [2]) (by kernel_rfl) (by simp) (AllReadyH.cons rfl (fun K hK => ?_) AllReadyH.nil)
  go_simp
  refine (HSXY.out _).mono ?_
  rintro e w15 ⟨rfl, hbn⟩
  dsimp only
  refine hK.out _ _ (FourD.below hHeld hbn) (fun hHeld1 => ?_)
  clear hK K
  have hb15 := belowThen hb0d hbn
  clear hb0d hbn hHeld
  refine wpAnyH_ready (rs := [5]) (by kernel_rfl) (by simp) (AllReadyH.cons rfl (fun K hK => ?_) AllReadyH.nil)
  go_simp
  refine (HSXZ.out _).mono ?_
  rintro e w16 ⟨rfl, hbn⟩
  dsimp only
  refine hK.out _ _ (FourD.below hHeld1 hbn) (fun hHeld2 => ?_)
  clear hK K
  have hb16 := belowThen hb15 hbn
  clear hb15 hbn hHeld1
  refine wpAnyH_ready (rs := [8]) (by kernel_rfl) (by simp) (AllReadyH.cons rfl (fun K hK => ?_) AllReadyH.nil)
  go_simp
  refine (HSZY.out _).mono ?_
  rintro e w17 ⟨rfl, hbn⟩
  dsimp only
  refine hK.out _ _ (FourD.below hHeld2 hbn) (fun hHeld3 => ?_)
  clear hK K
  have hb17 := belowThen hb16 hbn
  clear hb16 hbn hHeld2
  refine wpAnyH_take (i := 9) (oi := { dst := some 75, op := Op.call { callee := Callee.builtin Builtin.min, args := #[Operand.tmp 71, Operand.tmp 74], argTypes := #[3, 3] }, type := 3, pos := "law.go:62", after := #[{ on := 5, ground := Ground.data }, { on := 8, ground := Ground.data }], guard := none }) (v := .int .i64 (min (n2 : Int) (n3 : Int))) rfl (by kernel_rfl) (by kernel_rfl) (by kernel_rfl) (fun _ _ _ h => h) (Or.inl ⟨by rfl, ?_⟩) hHeld3 ?_
  · intro w' hSw
    go_simp
    split <;> omega
  simp only [Act.put, List.setIfInBounds_toArray, List.set_cons_zero, List.set_cons_succ]
  refine wpAnyH_take (i := 10) (oi := { dst := some 76, op := Op.binOp BinOp.geq 3 (Operand.tmp 68) (Operand.tmp 75) 3, type := 4, pos := "law.go:62", after := #[{ on := 2, ground := Ground.data }, { on := 9, ground := Ground.data }], guard := none }) (v := .bool true) rfl (by kernel_rfl) (by kernel_rfl) (by kernel_rfl) (fun _ _ _ h => h) (Or.inl ⟨by rfl, ?_⟩) hHeld3 ?_
  · intro w' hSw
    go_simp
  simp only [Act.put, List.setIfInBounds_toArray, List.set_cons_zero, List.set_cons_succ]
  refine wpAnyH_take (i := 11) (oi := { dst := some 77, op := Op.move (Operand.tmp 76), type := 4, pos := "law.go:62", after := #[{ on := 10, ground := Ground.data }, { on := 8, ground := Ground.chain }], guard := none }) (v := .bool true) rfl (by kernel_rfl) (by kernel_rfl) (by kernel_rfl) (fun _ _ _ h => h) (Or.inl ⟨by rfl, ?_⟩) hHeld3 ?_
  · intro w' hSw
    go_simp
  simp only [Act.put, List.setIfInBounds_toArray, List.set_cons_zero, List.set_cons_succ]
  refine wpAnyH_take (i := 12) (oi := { dst := some 78, op := Op.load TI (Operand.tmp 7), type := TI, pos := "law.go:62", after := #[{ on := 11, ground := Ground.guard }], guard := some (11, true) }) (v := _) rfl (by kernel_rfl) (by kernel_rfl) (by kernel_rfl) (fun _ _ _ h => h) (yieldsIf_load_mid (by rfl) TI (.tmp 7) rfl B 0 rfl (x.map byteV) (.array 32 5) (fun w hS => hS.1.1.range 0 _ ⟨[], by simp⟩) Tryd.underlying39 rfl SX.out) hHeld3 ?_
  simp only [Act.put, List.setIfInBounds_toArray, List.set_cons_zero, List.set_cons_succ]
  refine wpAnyH_take (i := 13) (oi := { dst := some 79, op := Op.load TI (Operand.tmp 8), type := TI, pos := "law.go:62", after := #[{ on := 11, ground := Ground.guard }], guard := some (11, true) }) (v := _) rfl (by kernel_rfl) (by kernel_rfl) (by kernel_rfl) (fun _ _ _ h => h) (yieldsIf_load_mid (by rfl) TI (.tmp 8) rfl (B + 1) 0 rfl (y.map byteV) (.array 32 5) (fun w hS => hS.1.2.1.range 0 _ ⟨[], by simp⟩) Tryd.underlying39 rfl SY.out) hHeld3 ?_
  simp only [Act.put, List.setIfInBounds_toArray, List.set_cons_zero, List.set_cons_succ]
  refine wpAnyH_take (i := 14) (oi := { dst := some 80, op := Op.binOp BinOp.eql TI (Operand.tmp 78) (Operand.tmp 79) TI, type := 4, pos := "law.go:62", after := #[{ on := 12, ground := Ground.data }, { on := 13, ground := Ground.data }, { on := 11, ground := Ground.guard }], guard := some (11, true) }) (v := .bool β) rfl (by kernel_rfl) (by kernel_rfl) (by kernel_rfl) (fun _ _ _ h => h) (Or.inl ⟨by rfl, ?_⟩) hHeld3 ?_
  · intro w' hSw
    go_simp
  simp only [Act.put, List.setIfInBounds_toArray, List.set_cons_zero, List.set_cons_succ]
  obtain ⟨hβ, hnf⟩ := HNF.out
  clear HNF q1 hge h1 h2 h3
  cases near <;> cases far
  · simp at hβ
    subst hβ
    refine wpAnyH_take (i := 15) (oi := { dst := some 81, op := Op.move (Operand.tmp 11), type := 4, pos := "law.go:62", after := #[{ on := 11, ground := Ground.guard }], guard := some (11, true) }) (v := .bool false) rfl (by kernel_rfl) (by kernel_rfl) (by kernel_rfl) (fun _ _ _ h => h) (Or.inl ⟨by rfl, ?_⟩) hHeld3 ?_
    · intro w' hSw
      go_simp
    simp only [Act.put, List.setIfInBounds_toArray, List.set_cons_zero, List.set_cons_succ]
    refine wpAnyH_take (i := 16) (oi := { dst := some 82, op := Op.unOp UnOp.not 4 (Operand.tmp 81), type := 4, pos := "law.go:62", after := #[{ on := 15, ground := Ground.data }, { on := 11, ground := Ground.guard }], guard := some (11, true) }) (v := .bool true) rfl (by kernel_rfl) (by kernel_rfl) (by kernel_rfl) (fun _ _ _ h => h) (Or.inl ⟨by rfl, ?_⟩) hHeld3 ?_
    · intro w' hSw
      go_simp
    simp only [Act.put, List.setIfInBounds_toArray, List.set_cons_zero, List.set_cons_succ]
    refine wpAnyH_take (i := 17) (oi := { dst := some 83, op := Op.move (Operand.tmp 82), type := 4, pos := "law.go:62", after := #[{ on := 16, ground := Ground.data }, { on := 11, ground := Ground.chain }, { on := 11, ground := Ground.guard }], guard := some (11, true) }) (v := .bool true) rfl (by kernel_rfl) (by kernel_rfl) (by kernel_rfl) (fun _ _ _ h => h) (Or.inl ⟨by rfl, ?_⟩) hHeld3 ?_
    · intro w' hSw
      go_simp
    simp only [Act.put, List.setIfInBounds_toArray, List.set_cons_zero, List.set_cons_succ]
    refine wpAnyH_take (i := 18) (oi := { dst := some 84, op := Op.move (Operand.tmp 12), type := 4, pos := "law.go:62", after := #[{ on := 17, ground := Ground.guard }], guard := some (17, true) }) (v := .bool false) rfl (by kernel_rfl) (by kernel_rfl) (by kernel_rfl) (fun _ _ _ h => h) (Or.inl ⟨by rfl, ?_⟩) hHeld3 ?_
    · intro w' hSw
      go_simp
    simp only [Act.put, List.setIfInBounds_toArray, List.set_cons_zero, List.set_cons_succ]
    refine wpAnyH_take (i := 19) (oi := { dst := some 85, op := Op.unOp UnOp.not 4 (Operand.tmp 84), type := 4, pos := "law.go:62", after := #[{ on := 18, ground := Ground.data }, { on := 17, ground := Ground.guard }], guard := some (17, true) }) (v := .bool true) rfl (by kernel_rfl) (by kernel_rfl) (by kernel_rfl) (fun _ _ _ h => h) (Or.inl ⟨by rfl, ?_⟩) hHeld3 ?_
    · intro w' hSw
      go_simp
    simp only [Act.put, List.setIfInBounds_toArray, List.set_cons_zero, List.set_cons_succ]
    refine wpAnyH_take (i := 20) (oi := { dst := some 86, op := Op.pick (Operand.tmp 83) (Operand.tmp 85) (Operand.const (Value.bool false)), type := 4, pos := "law.go:62", after := #[{ on := 17, ground := Ground.data }, { on := 19, ground := Ground.data }, { on := 11, ground := Ground.guard }], guard := some (11, true) }) (v := .bool true) rfl (by kernel_rfl) (by kernel_rfl) (by kernel_rfl) (fun _ _ _ h => h) (Or.inl ⟨by rfl, ?_⟩) hHeld3 ?_
    · intro w' hSw
      go_simp
    simp only [Act.put, List.setIfInBounds_toArray, List.set_cons_zero, List.set_cons_succ]
    refine wpAnyH_take (i := 21) (oi := { dst := some 87, op := Op.binOp BinOp.eql 4 (Operand.tmp 80) (Operand.tmp 86) 4, type := 4, pos := "law.go:62", after := #[{ on := 14, ground := Ground.data }, { on := 20, ground := Ground.data }, { on := 11, ground := Ground.guard }], guard := some (11, true) }) (v := .bool true) rfl (by kernel_rfl) (by kernel_rfl) (by kernel_rfl) (fun _ _ _ h => h) (Or.inl ⟨by rfl, ?_⟩) hHeld3 ?_
    · intro w' hSw
      go_simp
    simp only [Act.put, List.setIfInBounds_toArray, List.set_cons_zero, List.set_cons_succ]
    refine wpAnyH_take (i := 22) (oi := { dst := some 88, op := Op.pick (Operand.tmp 77) (Operand.tmp 87) (Operand.const (Value.bool false)), type := 4, pos := "law.go:62", after := #[{ on := 11, ground := Ground.data }, { on := 21, ground := Ground.data }], guard := none }) (v := .bool true) rfl (by kernel_rfl) (by kernel_rfl) (by kernel_rfl) (fun _ _ _ h => h) (Or.inl ⟨by rfl, ?_⟩) hHeld3 ?_
    · intro w' hSw
      go_simp
    simp only [Act.put, List.setIfInBounds_toArray, List.set_cons_zero, List.set_cons_succ]
    refine wpAnyH_take (i := 23) (oi := { dst := some 89, op := Op.move (Operand.tmp 88), type := 4, pos := "law.go:62", after := #[{ on := 22, ground := Ground.data }, { on := 17, ground := Ground.chain }], guard := none }) (v := .bool true) rfl (by kernel_rfl) (by kernel_rfl) (by kernel_rfl) (fun _ _ _ h => h) (Or.inl ⟨by rfl, ?_⟩) hHeld3 ?_
    · intro w' hSw
      go_simp
    simp only [Act.put, List.setIfInBounds_toArray, List.set_cons_zero, List.set_cons_succ]
    refine wpAnyH_take (i := 24) (oi := { dst := some 90, op := Op.move (Operand.tmp 11), type := 4, pos := "law.go:62", after := #[{ on := 23, ground := Ground.guard }], guard := some (23, true) }) (v := .bool false) rfl (by kernel_rfl) (by kernel_rfl) (by kernel_rfl) (fun _ _ _ h => h) (Or.inl ⟨by rfl, ?_⟩) hHeld3 ?_
    · intro w' hSw
      go_simp
    simp only [Act.put, List.setIfInBounds_toArray, List.set_cons_zero, List.set_cons_succ]
    refine wpAnyH_take (i := 25) (oi := { dst := some 91, op := Op.move (Operand.tmp 90), type := 4, pos := "law.go:62", after := #[{ on := 24, ground := Ground.data }, { on := 23, ground := Ground.chain }, { on := 23, ground := Ground.guard }], guard := some (23, true) }) (v := .bool false) rfl (by kernel_rfl) (by kernel_rfl) (by kernel_rfl) (fun _ _ _ h => h) (Or.inl ⟨by rfl, ?_⟩) hHeld3 ?_
    · intro w' hSw
      go_simp
    simp only [Act.put, List.setIfInBounds_toArray, List.set_cons_zero, List.set_cons_succ]
    refine wpAnyH_take (i := 26) (oi := { dst := some 92, op := Op.move (Operand.tmp 12), type := 4, pos := "law.go:62", after := #[{ on := 25, ground := Ground.guard }], guard := some (25, true) }) (v := undef) rfl (by kernel_rfl) (by kernel_rfl) (by kernel_rfl) (fun _ _ _ h => h) (Or.inr ⟨by rfl, rfl⟩) hHeld3 ?_
    simp only [Act.put, List.setIfInBounds_toArray, List.set_cons_zero, List.set_cons_succ]
    refine wpAnyH_take (i := 27) (oi := { dst := some 93, op := Op.pick (Operand.tmp 91) (Operand.tmp 92) (Operand.const (Value.bool false)), type := 4, pos := "law.go:62", after := #[{ on := 25, ground := Ground.data }, { on := 26, ground := Ground.data }, { on := 23, ground := Ground.guard }], guard := some (23, true) }) (v := .bool false) rfl (by kernel_rfl) (by kernel_rfl) (by kernel_rfl) (fun _ _ _ h => h) (Or.inl ⟨by rfl, ?_⟩) hHeld3 ?_
    · intro w' hSw
      go_simp
    simp only [Act.put, List.setIfInBounds_toArray, List.set_cons_zero, List.set_cons_succ]
    refine wpAnyH_take (i := 28) (oi := { dst := some 94, op := Op.unOp UnOp.not 4 (Operand.tmp 93), type := 4, pos := "law.go:62", after := #[{ on := 27, ground := Ground.data }, { on := 23, ground := Ground.guard }], guard := some (23, true) }) (v := .bool true) rfl (by kernel_rfl) (by kernel_rfl) (by kernel_rfl) (fun _ _ _ h => h) (Or.inl ⟨by rfl, ?_⟩) hHeld3 ?_
    · intro w' hSw
      go_simp
    simp only [Act.put, List.setIfInBounds_toArray, List.set_cons_zero, List.set_cons_succ]
    refine wpAnyH_take (i := 29) (oi := { dst := some 95, op := Op.pick (Operand.tmp 89) (Operand.tmp 94) (Operand.const (Value.bool false)), type := 4, pos := "law.go:62", after := #[{ on := 23, ground := Ground.data }, { on := 28, ground := Ground.data }], guard := none }) (v := .bool true) rfl (by kernel_rfl) (by kernel_rfl) (by kernel_rfl) (fun _ _ _ h => h) (Or.inl ⟨by rfl, ?_⟩) hHeld3 ?_
    · intro w' hSw
      go_simp
    simp only [Act.put, List.setIfInBounds_toArray, List.set_cons_zero, List.set_cons_succ]
    refine wpAnyH_ready (rs := [30]) (by kernel_rfl) (by simp) (AllReadyH.cons rfl (fun K hK => ?_) AllReadyH.nil)
    go_simp
    refine hK.out _ _ hHeld3 (fun hh1 => ?_)
    clear hK K hh1 hHeld3
    refine wpAnyH_done (by kernel_rfl) ?_ _
    rename_i K hK
    refine hK _ _ ?_
    go_wp2_with fail
    go_ret
    exact ⟨rfl, hb17⟩
  · simp at hβ
    subst hβ
    refine wpAnyH_take (i := 15) (oi := { dst := some 81, op := Op.move (Operand.tmp 11), type := 4, pos := "law.go:62", after := #[{ on := 11, ground := Ground.guard }], guard := some (11, true) }) (v := .bool false) rfl (by kernel_rfl) (by kernel_rfl) (by kernel_rfl) (fun _ _ _ h => h) (Or.inl ⟨by rfl, ?_⟩) hHeld3 ?_
    · intro w' hSw
      go_simp
    simp only [Act.put, List.setIfInBounds_toArray, List.set_cons_zero, List.set_cons_succ]
    refine wpAnyH_take (i := 16) (oi := { dst := some 82, op := Op.unOp UnOp.not 4 (Operand.tmp 81), type := 4, pos := "law.go:62", after := #[{ on := 15, ground := Ground.data }, { on := 11, ground := Ground.guard }], guard := some (11, true) }) (v := .bool true) rfl (by kernel_rfl) (by kernel_rfl) (by kernel_rfl) (fun _ _ _ h => h) (Or.inl ⟨by rfl, ?_⟩) hHeld3 ?_
    · intro w' hSw
      go_simp
    simp only [Act.put, List.setIfInBounds_toArray, List.set_cons_zero, List.set_cons_succ]
    refine wpAnyH_take (i := 17) (oi := { dst := some 83, op := Op.move (Operand.tmp 82), type := 4, pos := "law.go:62", after := #[{ on := 16, ground := Ground.data }, { on := 11, ground := Ground.chain }, { on := 11, ground := Ground.guard }], guard := some (11, true) }) (v := .bool true) rfl (by kernel_rfl) (by kernel_rfl) (by kernel_rfl) (fun _ _ _ h => h) (Or.inl ⟨by rfl, ?_⟩) hHeld3 ?_
    · intro w' hSw
      go_simp
    simp only [Act.put, List.setIfInBounds_toArray, List.set_cons_zero, List.set_cons_succ]
    refine wpAnyH_take (i := 18) (oi := { dst := some 84, op := Op.move (Operand.tmp 12), type := 4, pos := "law.go:62", after := #[{ on := 17, ground := Ground.guard }], guard := some (17, true) }) (v := .bool true) rfl (by kernel_rfl) (by kernel_rfl) (by kernel_rfl) (fun _ _ _ h => h) (Or.inl ⟨by rfl, ?_⟩) hHeld3 ?_
    · intro w' hSw
      go_simp
    simp only [Act.put, List.setIfInBounds_toArray, List.set_cons_zero, List.set_cons_succ]
    refine wpAnyH_take (i := 19) (oi := { dst := some 85, op := Op.unOp UnOp.not 4 (Operand.tmp 84), type := 4, pos := "law.go:62", after := #[{ on := 18, ground := Ground.data }, { on := 17, ground := Ground.guard }], guard := some (17, true) }) (v := .bool false) rfl (by kernel_rfl) (by kernel_rfl) (by kernel_rfl) (fun _ _ _ h => h) (Or.inl ⟨by rfl, ?_⟩) hHeld3 ?_
    · intro w' hSw
      go_simp
    simp only [Act.put, List.setIfInBounds_toArray, List.set_cons_zero, List.set_cons_succ]
    refine wpAnyH_take (i := 20) (oi := { dst := some 86, op := Op.pick (Operand.tmp 83) (Operand.tmp 85) (Operand.const (Value.bool false)), type := 4, pos := "law.go:62", after := #[{ on := 17, ground := Ground.data }, { on := 19, ground := Ground.data }, { on := 11, ground := Ground.guard }], guard := some (11, true) }) (v := .bool false) rfl (by kernel_rfl) (by kernel_rfl) (by kernel_rfl) (fun _ _ _ h => h) (Or.inl ⟨by rfl, ?_⟩) hHeld3 ?_
    · intro w' hSw
      go_simp
    simp only [Act.put, List.setIfInBounds_toArray, List.set_cons_zero, List.set_cons_succ]
    refine wpAnyH_take (i := 21) (oi := { dst := some 87, op := Op.binOp BinOp.eql 4 (Operand.tmp 80) (Operand.tmp 86) 4, type := 4, pos := "law.go:62", after := #[{ on := 14, ground := Ground.data }, { on := 20, ground := Ground.data }, { on := 11, ground := Ground.guard }], guard := some (11, true) }) (v := .bool true) rfl (by kernel_rfl) (by kernel_rfl) (by kernel_rfl) (fun _ _ _ h => h) (Or.inl ⟨by rfl, ?_⟩) hHeld3 ?_
    · intro w' hSw
      go_simp
    simp only [Act.put, List.setIfInBounds_toArray, List.set_cons_zero, List.set_cons_succ]
    refine wpAnyH_take (i := 22) (oi := { dst := some 88, op := Op.pick (Operand.tmp 77) (Operand.tmp 87) (Operand.const (Value.bool false)), type := 4, pos := "law.go:62", after := #[{ on := 11, ground := Ground.data }, { on := 21, ground := Ground.data }], guard := none }) (v := .bool true) rfl (by kernel_rfl) (by kernel_rfl) (by kernel_rfl) (fun _ _ _ h => h) (Or.inl ⟨by rfl, ?_⟩) hHeld3 ?_
    · intro w' hSw
      go_simp
    simp only [Act.put, List.setIfInBounds_toArray, List.set_cons_zero, List.set_cons_succ]
    refine wpAnyH_take (i := 23) (oi := { dst := some 89, op := Op.move (Operand.tmp 88), type := 4, pos := "law.go:62", after := #[{ on := 22, ground := Ground.data }, { on := 17, ground := Ground.chain }], guard := none }) (v := .bool true) rfl (by kernel_rfl) (by kernel_rfl) (by kernel_rfl) (fun _ _ _ h => h) (Or.inl ⟨by rfl, ?_⟩) hHeld3 ?_
    · intro w' hSw
      go_simp
    simp only [Act.put, List.setIfInBounds_toArray, List.set_cons_zero, List.set_cons_succ]
    refine wpAnyH_take (i := 24) (oi := { dst := some 90, op := Op.move (Operand.tmp 11), type := 4, pos := "law.go:62", after := #[{ on := 23, ground := Ground.guard }], guard := some (23, true) }) (v := .bool false) rfl (by kernel_rfl) (by kernel_rfl) (by kernel_rfl) (fun _ _ _ h => h) (Or.inl ⟨by rfl, ?_⟩) hHeld3 ?_
    · intro w' hSw
      go_simp
    simp only [Act.put, List.setIfInBounds_toArray, List.set_cons_zero, List.set_cons_succ]
    refine wpAnyH_take (i := 25) (oi := { dst := some 91, op := Op.move (Operand.tmp 90), type := 4, pos := "law.go:62", after := #[{ on := 24, ground := Ground.data }, { on := 23, ground := Ground.chain }, { on := 23, ground := Ground.guard }], guard := some (23, true) }) (v := .bool false) rfl (by kernel_rfl) (by kernel_rfl) (by kernel_rfl) (fun _ _ _ h => h) (Or.inl ⟨by rfl, ?_⟩) hHeld3 ?_
    · intro w' hSw
      go_simp
    simp only [Act.put, List.setIfInBounds_toArray, List.set_cons_zero, List.set_cons_succ]
    refine wpAnyH_take (i := 26) (oi := { dst := some 92, op := Op.move (Operand.tmp 12), type := 4, pos := "law.go:62", after := #[{ on := 25, ground := Ground.guard }], guard := some (25, true) }) (v := undef) rfl (by kernel_rfl) (by kernel_rfl) (by kernel_rfl) (fun _ _ _ h => h) (Or.inr ⟨by rfl, rfl⟩) hHeld3 ?_
    simp only [Act.put, List.setIfInBounds_toArray, List.set_cons_zero, List.set_cons_succ]
    refine wpAnyH_take (i := 27) (oi := { dst := some 93, op := Op.pick (Operand.tmp 91) (Operand.tmp 92) (Operand.const (Value.bool false)), type := 4, pos := "law.go:62", after := #[{ on := 25, ground := Ground.data }, { on := 26, ground := Ground.data }, { on := 23, ground := Ground.guard }], guard := some (23, true) }) (v := .bool false) rfl (by kernel_rfl) (by kernel_rfl) (by kernel_rfl) (fun _ _ _ h => h) (Or.inl ⟨by rfl, ?_⟩) hHeld3 ?_
    · intro w' hSw
      go_simp
    simp only [Act.put, List.setIfInBounds_toArray, List.set_cons_zero, List.set_cons_succ]
    refine wpAnyH_take (i := 28) (oi := { dst := some 94, op := Op.unOp UnOp.not 4 (Operand.tmp 93), type := 4, pos := "law.go:62", after := #[{ on := 27, ground := Ground.data }, { on := 23, ground := Ground.guard }], guard := some (23, true) }) (v := .bool true) rfl (by kernel_rfl) (by kernel_rfl) (by kernel_rfl) (fun _ _ _ h => h) (Or.inl ⟨by rfl, ?_⟩) hHeld3 ?_
    · intro w' hSw
      go_simp
    simp only [Act.put, List.setIfInBounds_toArray, List.set_cons_zero, List.set_cons_succ]
    refine wpAnyH_take (i := 29) (oi := { dst := some 95, op := Op.pick (Operand.tmp 89) (Operand.tmp 94) (Operand.const (Value.bool false)), type := 4, pos := "law.go:62", after := #[{ on := 23, ground := Ground.data }, { on := 28, ground := Ground.data }], guard := none }) (v := .bool true) rfl (by kernel_rfl) (by kernel_rfl) (by kernel_rfl) (fun _ _ _ h => h) (Or.inl ⟨by rfl, ?_⟩) hHeld3 ?_
    · intro w' hSw
      go_simp
    simp only [Act.put, List.setIfInBounds_toArray, List.set_cons_zero, List.set_cons_succ]
    refine wpAnyH_ready (rs := [30]) (by kernel_rfl) (by simp) (AllReadyH.cons rfl (fun K hK => ?_) AllReadyH.nil)
    go_simp
    refine hK.out _ _ hHeld3 (fun hh1 => ?_)
    clear hK K hh1 hHeld3
    refine wpAnyH_done (by kernel_rfl) ?_ _
    rename_i K hK
    refine hK _ _ ?_
    go_wp2_with fail
    go_ret
    exact ⟨rfl, hb17⟩
  · simp at hβ
    subst hβ
    refine wpAnyH_take (i := 15) (oi := { dst := some 81, op := Op.move (Operand.tmp 11), type := 4, pos := "law.go:62", after := #[{ on := 11, ground := Ground.guard }], guard := some (11, true) }) (v := .bool true) rfl (by kernel_rfl) (by kernel_rfl) (by kernel_rfl) (fun _ _ _ h => h) (Or.inl ⟨by rfl, ?_⟩) hHeld3 ?_
    · intro w' hSw
      go_simp
    simp only [Act.put, List.setIfInBounds_toArray, List.set_cons_zero, List.set_cons_succ]
    refine wpAnyH_take (i := 16) (oi := { dst := some 82, op := Op.unOp UnOp.not 4 (Operand.tmp 81), type := 4, pos := "law.go:62", after := #[{ on := 15, ground := Ground.data }, { on := 11, ground := Ground.guard }], guard := some (11, true) }) (v := .bool false) rfl (by kernel_rfl) (by kernel_rfl) (by kernel_rfl) (fun _ _ _ h => h) (Or.inl ⟨by rfl, ?_⟩) hHeld3 ?_
    · intro w' hSw
      go_simp
    simp only [Act.put, List.setIfInBounds_toArray, List.set_cons_zero, List.set_cons_succ]
    refine wpAnyH_take (i := 17) (oi := { dst := some 83, op := Op.move (Operand.tmp 82), type := 4, pos := "law.go:62", after := #[{ on := 16, ground := Ground.data }, { on := 11, ground := Ground.chain }, { on := 11, ground := Ground.guard }], guard := some (11, true) }) (v := .bool false) rfl (by kernel_rfl) (by kernel_rfl) (by kernel_rfl) (fun _ _ _ h => h) (Or.inl ⟨by rfl, ?_⟩) hHeld3 ?_
    · intro w' hSw
      go_simp
    simp only [Act.put, List.setIfInBounds_toArray, List.set_cons_zero, List.set_cons_succ]
    refine wpAnyH_take (i := 18) (oi := { dst := some 84, op := Op.move (Operand.tmp 12), type := 4, pos := "law.go:62", after := #[{ on := 17, ground := Ground.guard }], guard := some (17, true) }) (v := undef) rfl (by kernel_rfl) (by kernel_rfl) (by kernel_rfl) (fun _ _ _ h => h) (Or.inr ⟨by rfl, rfl⟩) hHeld3 ?_
    simp only [Act.put, List.setIfInBounds_toArray, List.set_cons_zero, List.set_cons_succ]
    refine wpAnyH_take (i := 19) (oi := { dst := some 85, op := Op.unOp UnOp.not 4 (Operand.tmp 84), type := 4, pos := "law.go:62", after := #[{ on := 18, ground := Ground.data }, { on := 17, ground := Ground.guard }], guard := some (17, true) }) (v := undef) rfl (by kernel_rfl) (by kernel_rfl) (by kernel_rfl) (fun _ _ _ h => h) (Or.inr ⟨by rfl, rfl⟩) hHeld3 ?_
    simp only [Act.put, List.setIfInBounds_toArray, List.set_cons_zero, List.set_cons_succ]
    refine wpAnyH_take (i := 20) (oi := { dst := some 86, op := Op.pick (Operand.tmp 83) (Operand.tmp 85) (Operand.const (Value.bool false)), type := 4, pos := "law.go:62", after := #[{ on := 17, ground := Ground.data }, { on := 19, ground := Ground.data }, { on := 11, ground := Ground.guard }], guard := some (11, true) }) (v := .bool false) rfl (by kernel_rfl) (by kernel_rfl) (by kernel_rfl) (fun _ _ _ h => h) (Or.inl ⟨by rfl, ?_⟩) hHeld3 ?_
    · intro w' hSw
      go_simp
    simp only [Act.put, List.setIfInBounds_toArray, List.set_cons_zero, List.set_cons_succ]
    refine wpAnyH_take (i := 21) (oi := { dst := some 87, op := Op.binOp BinOp.eql 4 (Operand.tmp 80) (Operand.tmp 86) 4, type := 4, pos := "law.go:62", after := #[{ on := 14, ground := Ground.data }, { on := 20, ground := Ground.data }, { on := 11, ground := Ground.guard }], guard := some (11, true) }) (v := .bool true) rfl (by kernel_rfl) (by kernel_rfl) (by kernel_rfl) (fun _ _ _ h => h) (Or.inl ⟨by rfl, ?_⟩) hHeld3 ?_
    · intro w' hSw
      go_simp
    simp only [Act.put, List.setIfInBounds_toArray, List.set_cons_zero, List.set_cons_succ]
    refine wpAnyH_take (i := 22) (oi := { dst := some 88, op := Op.pick (Operand.tmp 77) (Operand.tmp 87) (Operand.const (Value.bool false)), type := 4, pos := "law.go:62", after := #[{ on := 11, ground := Ground.data }, { on := 21, ground := Ground.data }], guard := none }) (v := .bool true) rfl (by kernel_rfl) (by kernel_rfl) (by kernel_rfl) (fun _ _ _ h => h) (Or.inl ⟨by rfl, ?_⟩) hHeld3 ?_
    · intro w' hSw
      go_simp
    simp only [Act.put, List.setIfInBounds_toArray, List.set_cons_zero, List.set_cons_succ]
    refine wpAnyH_take (i := 23) (oi := { dst := some 89, op := Op.move (Operand.tmp 88), type := 4, pos := "law.go:62", after := #[{ on := 22, ground := Ground.data }, { on := 17, ground := Ground.chain }], guard := none }) (v := .bool true) rfl (by kernel_rfl) (by kernel_rfl) (by kernel_rfl) (fun _ _ _ h => h) (Or.inl ⟨by rfl, ?_⟩) hHeld3 ?_
    · intro w' hSw
      go_simp
    simp only [Act.put, List.setIfInBounds_toArray, List.set_cons_zero, List.set_cons_succ]
    refine wpAnyH_take (i := 24) (oi := { dst := some 90, op := Op.move (Operand.tmp 11), type := 4, pos := "law.go:62", after := #[{ on := 23, ground := Ground.guard }], guard := some (23, true) }) (v := .bool true) rfl (by kernel_rfl) (by kernel_rfl) (by kernel_rfl) (fun _ _ _ h => h) (Or.inl ⟨by rfl, ?_⟩) hHeld3 ?_
    · intro w' hSw
      go_simp
    simp only [Act.put, List.setIfInBounds_toArray, List.set_cons_zero, List.set_cons_succ]
    refine wpAnyH_take (i := 25) (oi := { dst := some 91, op := Op.move (Operand.tmp 90), type := 4, pos := "law.go:62", after := #[{ on := 24, ground := Ground.data }, { on := 23, ground := Ground.chain }, { on := 23, ground := Ground.guard }], guard := some (23, true) }) (v := .bool true) rfl (by kernel_rfl) (by kernel_rfl) (by kernel_rfl) (fun _ _ _ h => h) (Or.inl ⟨by rfl, ?_⟩) hHeld3 ?_
    · intro w' hSw
      go_simp
    simp only [Act.put, List.setIfInBounds_toArray, List.set_cons_zero, List.set_cons_succ]
    refine wpAnyH_take (i := 26) (oi := { dst := some 92, op := Op.move (Operand.tmp 12), type := 4, pos := "law.go:62", after := #[{ on := 25, ground := Ground.guard }], guard := some (25, true) }) (v := .bool false) rfl (by kernel_rfl) (by kernel_rfl) (by kernel_rfl) (fun _ _ _ h => h) (Or.inl ⟨by rfl, ?_⟩) hHeld3 ?_
    · intro w' hSw
      go_simp
    simp only [Act.put, List.setIfInBounds_toArray, List.set_cons_zero, List.set_cons_succ]
    refine wpAnyH_take (i := 27) (oi := { dst := some 93, op := Op.pick (Operand.tmp 91) (Operand.tmp 92) (Operand.const (Value.bool false)), type := 4, pos := "law.go:62", after := #[{ on := 25, ground := Ground.data }, { on := 26, ground := Ground.data }, { on := 23, ground := Ground.guard }], guard := some (23, true) }) (v := .bool false) rfl (by kernel_rfl) (by kernel_rfl) (by kernel_rfl) (fun _ _ _ h => h) (Or.inl ⟨by rfl, ?_⟩) hHeld3 ?_
    · intro w' hSw
      go_simp
    simp only [Act.put, List.setIfInBounds_toArray, List.set_cons_zero, List.set_cons_succ]
    refine wpAnyH_take (i := 28) (oi := { dst := some 94, op := Op.unOp UnOp.not 4 (Operand.tmp 93), type := 4, pos := "law.go:62", after := #[{ on := 27, ground := Ground.data }, { on := 23, ground := Ground.guard }], guard := some (23, true) }) (v := .bool true) rfl (by kernel_rfl) (by kernel_rfl) (by kernel_rfl) (fun _ _ _ h => h) (Or.inl ⟨by rfl, ?_⟩) hHeld3 ?_
    · intro w' hSw
      go_simp
    simp only [Act.put, List.setIfInBounds_toArray, List.set_cons_zero, List.set_cons_succ]
    refine wpAnyH_take (i := 29) (oi := { dst := some 95, op := Op.pick (Operand.tmp 89) (Operand.tmp 94) (Operand.const (Value.bool false)), type := 4, pos := "law.go:62", after := #[{ on := 23, ground := Ground.data }, { on := 28, ground := Ground.data }], guard := none }) (v := .bool true) rfl (by kernel_rfl) (by kernel_rfl) (by kernel_rfl) (fun _ _ _ h => h) (Or.inl ⟨by rfl, ?_⟩) hHeld3 ?_
    · intro w' hSw
      go_simp
    simp only [Act.put, List.setIfInBounds_toArray, List.set_cons_zero, List.set_cons_succ]
    refine wpAnyH_ready (rs := [30]) (by kernel_rfl) (by simp) (AllReadyH.cons rfl (fun K hK => ?_) AllReadyH.nil)
    go_simp
    refine hK.out _ _ hHeld3 (fun hh1 => ?_)
    clear hK K hh1 hHeld3
    refine wpAnyH_done (by kernel_rfl) ?_ _
    rename_i K hK
    refine hK _ _ ?_
    go_wp2_with fail
    go_ret
    exact ⟨rfl, hb17⟩
  · simp at hnf
end Go.Proofs.YtmbihhfhpijgpaaDoor
