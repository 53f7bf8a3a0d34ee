/-
  OidSorts: the walk.
-/
import Derived.Test.YtjbjkkgkefpggaaDoorOid10
import Derived.Test.YtjbjkkgkefpggaaDoorOid20
namespace Go.Proofs.YtjbjkkgkefpggaaDoor
open Go.RowKit Crv

/-- Four names in memory. -/
def FourG (w : World) (b : Nat) (g x y z : List UInt8) : Prop := Three w b g x y ∧ Mem w (b + 1 + 1 + 1) TI (z.map byteV)
theorem FourG.below {w w' : World} {b : Nat} {g x y z : List UInt8} (h : FourG w b g x y z) (hb : Below w.heap.size w w') : FourG w' b g x y z := ⟨h.1.below hb, h.2.below hb h.2.lt⟩

abbrev ptr0 (g : Nat) : Value := .pointer (some ⟨g, 0, none⟩)
abbrev ag (l : List UInt8) : Value := .agg (l.map byteV).toArray
abbrev clo (B : Nat) : Value := .func (.func 34) #[] #[ptr0 B]
/-- What the walk keeps. -/
def SortsW (w0 : World) (b : Nat) (g x y z : List UInt8) (w : World) : Prop := FourG w b g x y z ∧ Below w0.heap.size w0 w
theorem SortsW.below {w0 w w' : World} {b : Nat} {g x y z : List UInt8} (h : SortsW w0 b g x y z w) (hb : Below w.heap.size w w') : SortsW w0 b g x y z w' := ⟨h.1.below hb, belowThen h.2 hb⟩
theorem SortsW.lt {w0 w : World} {b : Nat} {g x y z : List UInt8} (h : SortsW w0 b g x y z w) : b + 1 + 1 + 1 < w.heap.size ∧ w0.heap.size ≤ w.heap.size := ⟨h.1.2.lt, h.2.size⟩
theorem SortsW.store {w0 w w' : World} {b D : Nat} {g x y z : List UInt8} (h : SortsW w0 b g x y z w) (hg : w.grownBy w' (some D)) (hD : b + 1 + 1 + 1 < D ∧ w0.heap.size ≤ D) : SortsW w0 b g x y z w' :=
  ⟨⟨⟨h.1.1.1.grown hg (fun e => by injection e with e; omega), h.1.1.2.1.grown hg (fun e => by injection e with e; omega), h.1.1.2.2.grown hg (fun e => by injection e with e; omega)⟩, h.1.2.grown hg (fun e => by injection e with e; omega)⟩, belowNew h.2 hg hD.2⟩

def SortsD (w0 : World) (b D : Nat) (g x y z m : List UInt8) (w : World) : Prop := SortsW w0 b g x y z w ∧ Mem w D TI (m.map byteV)
theorem SortsD.below {w0 w w' : World} {b D : Nat} {g x y z m : List UInt8} (h : SortsD w0 b D g x y z m w) (hb : Below w.heap.size w w') : SortsD w0 b D g x y z m w' := ⟨h.1.below hb, h.2.below hb h.2.lt⟩

attribute [local go_sem ↓] ld_id
set_option maxHeartbeats 4000000 in
set_option maxRecDepth 100000 in
theorem oidSorts_walk (g0 a b c : List UInt8) (w : World) (hc : Consts w) :
    Calls Tryd.prog 11 #[.string (str g0), .string (str a), .string (str b), .string (str c)] w fun e w' => e = .returned (.bool true) ∧ Below w.heap.size w w' := by
  have HC := Lib.hid hc
  clear hc
  have HNG := Lib.hid (name_any g0)
  have HNA := Lib.hid (name_any a)
  have HNB := Lib.hid (name_any b)
  have HNC := Lib.hid (name_any c)
  obtain ⟨g, hg⟩ : ∃ x, x = nameOf g0 := ⟨_, rfl⟩
  obtain ⟨x, hx⟩ : ∃ x, x = nameOf a := ⟨_, rfl⟩
  obtain ⟨y, hy⟩ : ∃ y, y = nameOf b := ⟨_, rfl⟩
  obtain ⟨z, hz⟩ : ∃ z, z = nameOf c := ⟨_, rfl⟩
  have lg : g.length = 32 := by rw [hg]; exact length_nameOf _
  have lx : x.length = 32 := by rw [hx]; exact length_nameOf _
  have ly : y.length = 32 := by rw [hy]; exact length_nameOf _
  have lz : z.length = 32 := by rw [hz]; exact length_nameOf _
  rw [← hg] at HNG
  rw [← hx] at HNA
  rw [← hy] at HNB
  rw [← hz] at HNC
  clear hg hx hy hz
  have SG := Lib.hid (sz_id g lg)
  have SX := Lib.hid (sz_id x lx)
  have SY := Lib.hid (sz_id y ly)
  have SZ := Lib.hid (sz_id z lz)
  have OG := Lib.hid (one_bytes g)
  have OX := Lib.hid (one_bytes x)
  have OY := Lib.hid (one_bytes y)
  have OZ := Lib.hid (one_bytes z)
  have HZG := Lib.hid (show (List.replicate 32 (byteV 0)).length = (g.map byteV).length by rw [List.length_map, lg]; rfl)
  have HZX := Lib.hid (show (List.replicate 32 (byteV 0)).length = (x.map byteV).length by rw [List.length_map, lx]; rfl)
  have HZY := Lib.hid (show (List.replicate 32 (byteV 0)).length = (y.map byteV).length by rw [List.length_map, ly]; rfl)
  have HZZ := Lib.hid (show (List.replicate 32 (byteV 0)).length = (z.map byteV).length by rw [List.length_map, lz]; rfl)
  have LG := Lib.hid lg
  have LX := Lib.hid lx
  have LY := Lib.hid ly
  have LZ := Lib.hid lz
  -- the closure's answers
  have lxy := length_nearOf g x y lx ly
  have lyz := length_nearOf g y z ly lz
  have HXY := Lib.hid (fun gb W hm => near_any g x y gb W lg lx ly hm)
  have HYZ := Lib.hid (fun gb W hm => near_any g y z gb W lg ly lz hm)
  have HM1 := Lib.hid (fun gb W hm => near_any g (nearOf g x y) z gb W lg lxy lz hm)
  have HM2 := Lib.hid (fun gb W hm => near_any g x (nearOf g y z) gb W lg lx lyz hm)
  rw [← nearOf_assoc g lg x y z lx ly lz] at HM2
  have lm := length_nearOf g (nearOf g x y) z lxy lz
  obtain ⟨n1, n2, n3⟩ := nearest g lg x y z lx ly lz
  obtain ⟨m, hm⟩ : ∃ m, m = nearOf g (nearOf g x y) z := ⟨_, rfl⟩
  rw [← hm] at HM1 HM2 lm n1 n2 n3
  have HMG := Lib.hid (fun gb W hm' => near_any g m g gb W lg lm lg hm')
  rw [nearOf_goal g lg m lm] at HMG
  obtain ⟨xy, hxy⟩ : ∃ m, m = nearOf g x y := ⟨_, rfl⟩
  obtain ⟨yz, hyz⟩ : ∃ m, m = nearOf g y z := ⟨_, rfl⟩
  rw [← hxy] at HXY HM1
  rw [← hyz] at HYZ HM2
  have HCX := Lib.hid (fun W => closer_any g x m W lg lx lm)
  have HCY := Lib.hid (fun W => closer_any g y m W lg ly lm)
  have HCZ := Lib.hid (fun W => closer_any g z m W lg lz lm)
  rw [decide_eq_false n1] at HCX
  rw [decide_eq_false n2] at HCY
  rw [decide_eq_false n3] at HCZ
  have SM := Lib.hid (sz_id m lm)
  have OM := Lib.hid (one_bytes m)
  have HZM := Lib.hid (show (List.replicate 32 (byteV 0)).length = (m.map byteV).length by rw [List.length_map, lm]; rfl)
  have q1 : ∀ W, (binOp .eql TI (.agg (m.map byteV).toArray) (.agg (m.map byteV).toArray)).run Tryd.prog W = .ok (.bool true) W := fun W => by
    have h := run_eql_bytes (P := Tryd.prog) TI 5 32 Tryd.underlying39 Tryd.underlying5 (by kernel_rfl) m m lm lm W
    simp only [decide_true] at h
    exact h
  have q2 : ∀ W, (binOp .eql TI (.agg (g.map byteV).toArray) (.agg (g.map byteV).toArray)).run Tryd.prog W = .ok (.bool true) W := fun W => by
    have h := run_eql_bytes (P := Tryd.prog) TI 5 32 Tryd.underlying39 Tryd.underlying5 (by kernel_rfl) g g lg lg W
    simp only [decide_true] at h
    exact h
  clear hm hxy hyz n1 n2 n3 lxy lyz lm lg lx ly lz
  go_enter Tryd.func11, Tryd.ntmps11
  go_wp2_with fail
  refine (HNG.out _).mono ?_
  rintro e w1 ⟨rfl, hb1⟩
  go_wp2_with fail
  refine (HNA.out _).mono ?_
  rintro e w2 ⟨rfl, hb2⟩
  have hb02 := belowThen hb1 hb2
  clear hb1 hb2
  go_wp2_with fail
  refine (HNB.out _).mono ?_
  rintro e w3 ⟨rfl, hb3⟩
  have hb03 := belowThen hb02 hb3
  clear hb3 hb02
  go_wp2_with fail
  refine (HNC.out _).mono ?_
  rintro e w4 ⟨rfl, hb4⟩
  have hb04 := belowThen hb03 hb4
  clear hb4 hb03
  obtain ⟨B, hB⟩ : ∃ B, B = w4.heap.size := ⟨_, rfl⟩
  go_wp2_with (first
    | (refine wp_store_gen (B := w4.heap.size) (w0 := w4) (((((Below.refl _ _).alloc (Nat.le_refl _) _).alloc (by simp) _).alloc (by simp; omega) _).alloc (by simp; omega) _) (Nat.le_refl _) ((((Mem.newAt w4 TI (List.replicate 32 (byteV 0)) rfl).alloc _).alloc _).alloc _) (g.map byteV) TI (.tmp 9) (.tmp 16) rfl rfl rfl rfl SG.out HZG.out OG.out ?_
       intro W1 hm1 hk1b hz1 hk1
       have HG1 := Lib.hid hm1
       have HX1 := Lib.hid (show Mem W1 (w4.heap.size + 1) TI (List.replicate 32 (byteV 0)) from (hk1 _ (by omega)).trans (((Mem.newAt (w4.alloc _) TI (List.replicate 32 (byteV 0)) (by simp)).alloc _).alloc _))
       have HY1 := Lib.hid (show Mem W1 (w4.heap.size + 1 + 1) TI (List.replicate 32 (byteV 0)) from (hk1 _ (by omega)).trans ((Mem.newAt ((w4.alloc _).alloc _) TI (List.replicate 32 (byteV 0)) (by simp)).alloc _))
       have HZ1 := Lib.hid (show Mem W1 (w4.heap.size + 1 + 1 + 1) TI (List.replicate 32 (byteV 0)) from (hk1 _ (by omega)).trans (Mem.newAt _ TI (List.replicate 32 (byteV 0)) (by simp)))
       clear hm1 hz1 hk1)
    | (refine wp_store_gen (B := w4.heap.size) (w0 := w4) hk1b (Nat.le_succ _) HX1.out (x.map byteV) TI (.tmp 10) (.tmp 18) rfl rfl rfl rfl SX.out HZX.out OX.out ?_
       intro W2 hm2 hk2b hz2 hk2
       have HG2 := Lib.hid (show Mem W2 w4.heap.size TI (g.map byteV) from (hk2 _ (by omega)).trans HG1.out)
       have HX2 := Lib.hid hm2
       have HY2 := Lib.hid (show Mem W2 (w4.heap.size + 1 + 1) TI (List.replicate 32 (byteV 0)) from (hk2 _ (by omega)).trans HY1.out)
       have HZ2 := Lib.hid (show Mem W2 (w4.heap.size + 1 + 1 + 1) TI (List.replicate 32 (byteV 0)) from (hk2 _ (by omega)).trans HZ1.out)
       clear hm2 hz2 hk2 HG1 HX1 HY1 HZ1 hk1b)
    | (refine wp_store_gen (B := w4.heap.size) (w0 := w4) hk2b (Nat.le_succ_of_le (Nat.le_succ _)) HY2.out (y.map byteV) TI (.tmp 11) (.tmp 20) rfl rfl rfl rfl SY.out HZY.out OY.out ?_
       intro W3 hm3 hk3b hz3 hk3
       have HG3 := Lib.hid (show Mem W3 w4.heap.size TI (g.map byteV) from (hk3 _ (by omega)).trans HG2.out)
       have HX3 := Lib.hid (show Mem W3 (w4.heap.size + 1) TI (x.map byteV) from (hk3 _ (by omega)).trans HX2.out)
       have HY3 := Lib.hid hm3
       have HZ3 := Lib.hid (show Mem W3 (w4.heap.size + 1 + 1 + 1) TI (List.replicate 32 (byteV 0)) from (hk3 _ (by omega)).trans HZ2.out)
       clear hm3 hz3 hk3 HG2 HX2 HY2 HZ2 hk2b)
    | (refine wp_store_gen (B := w4.heap.size) (w0 := w4) hk3b (by omega) HZ3.out (z.map byteV) TI (.tmp 12) (.tmp 22) rfl rfl rfl rfl SZ.out HZZ.out OZ.out ?_
       intro W4 hm4 hk4b hz4 hk4
       have HT4 := Lib.hid (show FourG W4 w4.heap.size g x y z from ⟨⟨(hk4 _ (by omega)).trans HG3.out, (hk4 _ (by omega)).trans HX3.out, (hk4 _ (by omega)).trans HY3.out⟩, hm4⟩)
       have hb0 := belowThen hb04 hk4b
       clear hm4 hz4 hk4 HG3 HX3 HY3 HZ3 hk3b hk4b)
    | fail)
  rw [← hB] at HT4
  rw [← hB]
  clear hB hb04
  refine (awake2_any _ (HC.out.below hb0)).mono ?_
  rintro e w5 ⟨rfl, hb5⟩
  have HT5 := Lib.hid (HT4.out.below hb5)
  have hb05 := belowThen hb0 hb5
  clear hb0 hb5 HT4
  go_wp2_with fail
  rename_i Q5 K5 hK5
  have HREST : ∀ (D : Nat) (W : World), SortsW w B g x y z W → Mem W D TI (m.map byteV) → K5 { tmps := #[.string (str g0), .string (str a), .string (str b), .string (str c), undef, undef, undef, undef, .bool false, ptr0 B, ptr0 (B + 1), ptr0 (B + 1 + 1), ptr0 (B + 1 + 1 + 1), clo B, ptr0 D, .string (str g0), ag g, .string (str a), ag x, .string (str b), ag y, .string (str c), ag z, .bool true, .bool false, clo B, clo B, clo B, ag x, ag y, ag xy, ag z, ag m, undef, undef, undef, undef, undef, undef, undef, undef, undef, undef, undef, undef, undef, undef, undef, undef, undef, undef, undef, undef, undef, undef, undef, undef, undef, undef, undef, undef, undef, undef, undef, undef, undef, undef, undef, undef, undef, undef], defers := [] } W := by
    intro D W hS hD
    refine hK5 _ _ ?_
    clear hK5
    go_wp2_with fail
    have hb0 := hS.2
    have HSD := Lib.hid (show SortsD w B D g x y z m W.drew from ⟨⟨hS.1, below_drewN hb0 1⟩, hD⟩)
    clear hS hD hb0
    refine wp_region_held_drew (S := fun w' => SortsD w B D g x y z m w') (by kernel_rfl) HSD.out (fun h0 => ?_)
    clear HSD
    refine wpAnyH_take (i := 0) (oi := { dst := some 33, op := Op.load TI (Operand.tmp 14), type := TI, pos := "outright.go:21", after := #[], guard := none }) (v := _) rfl (by kernel_rfl) (by kernel_rfl) (by kernel_rfl) (fun _ _ _ h => h) (yieldsIf_load_mid (by rfl) TI (.tmp 14) rfl D 0 rfl (m.map byteV) (.array 32 5) (fun w hS => hS.2.range 0 _ ⟨[], by simp⟩) Tryd.underlying39 rfl SM.out) h0 ?_
    simp only [Act.put, List.setIfInBounds_toArray, List.set_cons_zero, List.set_cons_succ]
    refine wpAnyH_take (i := 1) (oi := { dst := some 34, op := Op.move (Operand.tmp 13), type := 42, pos := "outright.go:21", after := #[], guard := none }) (v := clo B) rfl (by kernel_rfl) (by kernel_rfl) (by kernel_rfl) (fun _ _ _ h => h) (Or.inl ⟨by rfl, ?_⟩) h0 ?_
    · intro w' hSw
      go_simp
    simp only [Act.put, List.setIfInBounds_toArray, List.set_cons_zero, List.set_cons_succ]
    refine wpAnyH_take (i := 2) (oi := { dst := some 35, op := Op.load TI (Operand.tmp 10), type := TI, pos := "outright.go:21", after := #[], guard := none }) (v := _) rfl (by kernel_rfl) (by kernel_rfl) (by kernel_rfl) (fun _ _ _ h => h) (yieldsIf_load_mid (by rfl) TI (.tmp 10) rfl (B + 1) 0 rfl (x.map byteV) (.array 32 5) (fun w hS => hS.1.1.1.2.1.range 0 _ ⟨[], by simp⟩) Tryd.underlying39 rfl SX.out) h0 ?_
    simp only [Act.put, List.setIfInBounds_toArray, List.set_cons_zero, List.set_cons_succ]
    refine wpAnyH_take (i := 3) (oi := { dst := some 36, op := Op.move (Operand.tmp 13), type := 42, pos := "outright.go:21", after := #[], guard := none }) (v := clo B) rfl (by kernel_rfl) (by kernel_rfl) (by kernel_rfl) (fun _ _ _ h => h) (Or.inl ⟨by rfl, ?_⟩) h0 ?_
    · intro w' hSw
      go_simp
    simp only [Act.put, List.setIfInBounds_toArray, List.set_cons_zero, List.set_cons_succ]
    refine wpAnyH_take (i := 4) (oi := { dst := some 37, op := Op.load TI (Operand.tmp 11), type := TI, pos := "outright.go:21", after := #[], guard := none }) (v := _) rfl (by kernel_rfl) (by kernel_rfl) (by kernel_rfl) (fun _ _ _ h => h) (yieldsIf_load_mid (by rfl) TI (.tmp 11) rfl (B + 1 + 1) 0 rfl (y.map byteV) (.array 32 5) (fun w hS => hS.1.1.1.2.2.range 0 _ ⟨[], by simp⟩) Tryd.underlying39 rfl SY.out) h0 ?_
    simp only [Act.put, List.setIfInBounds_toArray, List.set_cons_zero, List.set_cons_succ]
    refine wpAnyH_take (i := 5) (oi := { dst := some 38, op := Op.load TI (Operand.tmp 12), type := TI, pos := "outright.go:21", after := #[], guard := none }) (v := _) rfl (by kernel_rfl) (by kernel_rfl) (by kernel_rfl) (fun _ _ _ h => h) (yieldsIf_load_mid (by rfl) TI (.tmp 12) rfl (B + 1 + 1 + 1) 0 rfl (z.map byteV) (.array 32 5) (fun w hS => hS.1.1.2.range 0 _ ⟨[], by simp⟩) Tryd.underlying39 rfl SZ.out) h0 ?_
    simp only [Act.put, List.setIfInBounds_toArray, List.set_cons_zero, List.set_cons_succ]
    refine wpAnyH_ready (rs := [6]) (by kernel_rfl) (by simp) (AllReadyH.cons rfl (fun K hK => ?_) AllReadyH.nil)
    go_simp
    refine (HYZ.out _ _ h0.1.1.1.1).mono ?_
    rintro e v1 ⟨rfl, hbn⟩
    dsimp only
    refine hK.out _ _ (SortsD.below h0 hbn) (fun h1 => ?_)
    clear hK K hbn h0
    refine wpAnyH_ready (rs := [7]) (by kernel_rfl) (by simp) (AllReadyH.cons rfl (fun K hK => ?_) AllReadyH.nil)
    go_simp
    refine (HM2.out _ _ h1.1.1.1.1).mono ?_
    rintro e v2 ⟨rfl, hbn⟩
    dsimp only
    refine hK.out _ _ (SortsD.below h1 hbn) (fun h2 => ?_)
    clear hK K hbn h1
    refine wpAnyH_take (i := 8) (oi := { dst := some 41, op := Op.binOp BinOp.eql TI (Operand.tmp 33) (Operand.tmp 40) TI, type := 4, pos := "outright.go:21", after := #[{ on := 0, ground := Ground.data }, { on := 7, ground := Ground.data }], guard := none }) (v := .bool true) rfl (by kernel_rfl) (by kernel_rfl) (by kernel_rfl) (fun _ _ _ h => h) (Or.inl ⟨by rfl, ?_⟩) h2 ?_
    · intro w' hSw
      go_simp
    simp only [Act.put, List.setIfInBounds_toArray, List.set_cons_zero, List.set_cons_succ]
    refine wpAnyH_take (i := 9) (oi := { dst := some 42, op := Op.move (Operand.tmp 41), type := 4, pos := "outright.go:21", after := #[{ on := 8, ground := Ground.data }, { on := 7, ground := Ground.chain }], guard := none }) (v := .bool true) rfl (by kernel_rfl) (by kernel_rfl) (by kernel_rfl) (fun _ _ _ h => h) (Or.inl ⟨by rfl, ?_⟩) h2 ?_
    · intro w' hSw
      go_simp
    simp only [Act.put, List.setIfInBounds_toArray, List.set_cons_zero, List.set_cons_succ]
    refine wpAnyH_take (i := 10) (oi := { dst := some 43, op := Op.load TI (Operand.tmp 9), type := TI, pos := "outright.go:21", after := #[{ on := 9, ground := Ground.guard }], guard := some (9, true) }) (v := _) rfl (by kernel_rfl) (by kernel_rfl) (by kernel_rfl) (fun _ _ _ h => h) (yieldsIf_load_mid (by rfl) TI (.tmp 9) rfl B 0 rfl (g.map byteV) (.array 32 5) (fun w hS => hS.1.1.1.1.range 0 _ ⟨[], by simp⟩) Tryd.underlying39 rfl SG.out) h2 ?_
    simp only [Act.put, List.setIfInBounds_toArray, List.set_cons_zero, List.set_cons_succ]
    refine wpAnyH_take (i := 11) (oi := { dst := some 44, op := Op.load TI (Operand.tmp 10), type := TI, pos := "outright.go:21", after := #[{ on := 9, ground := Ground.guard }], guard := some (9, true) }) (v := _) rfl (by kernel_rfl) (by kernel_rfl) (by kernel_rfl) (fun _ _ _ h => h) (yieldsIf_load_mid (by rfl) TI (.tmp 10) rfl (B + 1) 0 rfl (x.map byteV) (.array 32 5) (fun w hS => hS.1.1.1.2.1.range 0 _ ⟨[], by simp⟩) Tryd.underlying39 rfl SX.out) h2 ?_
    simp only [Act.put, List.setIfInBounds_toArray, List.set_cons_zero, List.set_cons_succ]
    refine wpAnyH_take (i := 12) (oi := { dst := some 45, op := Op.load TI (Operand.tmp 14), type := TI, pos := "outright.go:21", after := #[{ on := 9, ground := Ground.guard }], guard := some (9, true) }) (v := _) rfl (by kernel_rfl) (by kernel_rfl) (by kernel_rfl) (fun _ _ _ h => h) (yieldsIf_load_mid (by rfl) TI (.tmp 14) rfl D 0 rfl (m.map byteV) (.array 32 5) (fun w hS => hS.2.range 0 _ ⟨[], by simp⟩) Tryd.underlying39 rfl SM.out) h2 ?_
    simp only [Act.put, List.setIfInBounds_toArray, List.set_cons_zero, List.set_cons_succ]
    refine wpAnyH_ready (rs := [13]) (by kernel_rfl) (by simp) (AllReadyH.cons rfl (fun K hK => ?_) AllReadyH.nil)
    go_simp
    refine (HCX.out _).mono ?_
    rintro e v3 ⟨rfl, hbn⟩
    dsimp only
    refine hK.out _ _ (SortsD.below h2 hbn) (fun h3 => ?_)
    clear hK K hbn h2
    refine wpAnyH_take (i := 14) (oi := { dst := some 47, op := Op.unOp UnOp.not 4 (Operand.tmp 46), type := 4, pos := "outright.go:21", after := #[{ on := 13, ground := Ground.data }, { on := 9, ground := Ground.guard }], guard := some (9, true) }) (v := .bool true) rfl (by kernel_rfl) (by kernel_rfl) (by kernel_rfl) (fun _ _ _ h => h) (Or.inl ⟨by rfl, ?_⟩) h3 ?_
    · intro w' hSw
      go_simp
    simp only [Act.put, List.setIfInBounds_toArray, List.set_cons_zero, List.set_cons_succ]
    refine wpAnyH_take (i := 15) (oi := { dst := some 48, op := Op.pick (Operand.tmp 42) (Operand.tmp 47) (Operand.const (Value.bool false)), type := 4, pos := "outright.go:21", after := #[{ on := 9, ground := Ground.data }, { on := 14, ground := Ground.data }], guard := none }) (v := .bool true) rfl (by kernel_rfl) (by kernel_rfl) (by kernel_rfl) (fun _ _ _ h => h) (Or.inl ⟨by rfl, ?_⟩) h3 ?_
    · intro w' hSw
      go_simp
    simp only [Act.put, List.setIfInBounds_toArray, List.set_cons_zero, List.set_cons_succ]
    refine wpAnyH_take (i := 16) (oi := { dst := some 49, op := Op.move (Operand.tmp 48), type := 4, pos := "outright.go:21", after := #[{ on := 15, ground := Ground.data }, { on := 13, ground := Ground.chain }], guard := none }) (v := .bool true) rfl (by kernel_rfl) (by kernel_rfl) (by kernel_rfl) (fun _ _ _ h => h) (Or.inl ⟨by rfl, ?_⟩) h3 ?_
    · intro w' hSw
      go_simp
    simp only [Act.put, List.setIfInBounds_toArray, List.set_cons_zero, List.set_cons_succ]
    refine wpAnyH_take (i := 17) (oi := { dst := some 50, op := Op.load TI (Operand.tmp 9), type := TI, pos := "outright.go:21", after := #[{ on := 16, ground := Ground.guard }], guard := some (16, true) }) (v := _) rfl (by kernel_rfl) (by kernel_rfl) (by kernel_rfl) (fun _ _ _ h => h) (yieldsIf_load_mid (by rfl) TI (.tmp 9) rfl B 0 rfl (g.map byteV) (.array 32 5) (fun w hS => hS.1.1.1.1.range 0 _ ⟨[], by simp⟩) Tryd.underlying39 rfl SG.out) h3 ?_
    simp only [Act.put, List.setIfInBounds_toArray, List.set_cons_zero, List.set_cons_succ]
    refine wpAnyH_take (i := 18) (oi := { dst := some 51, op := Op.load TI (Operand.tmp 11), type := TI, pos := "outright.go:21", after := #[{ on := 16, ground := Ground.guard }], guard := some (16, true) }) (v := _) rfl (by kernel_rfl) (by kernel_rfl) (by kernel_rfl) (fun _ _ _ h => h) (yieldsIf_load_mid (by rfl) TI (.tmp 11) rfl (B + 1 + 1) 0 rfl (y.map byteV) (.array 32 5) (fun w hS => hS.1.1.1.2.2.range 0 _ ⟨[], by simp⟩) Tryd.underlying39 rfl SY.out) h3 ?_
    simp only [Act.put, List.setIfInBounds_toArray, List.set_cons_zero, List.set_cons_succ]
    refine wpAnyH_take (i := 19) (oi := { dst := some 52, op := Op.load TI (Operand.tmp 14), type := TI, pos := "outright.go:21", after := #[{ on := 16, ground := Ground.guard }], guard := some (16, true) }) (v := _) rfl (by kernel_rfl) (by kernel_rfl) (by kernel_rfl) (fun _ _ _ h => h) (yieldsIf_load_mid (by rfl) TI (.tmp 14) rfl D 0 rfl (m.map byteV) (.array 32 5) (fun w hS => hS.2.range 0 _ ⟨[], by simp⟩) Tryd.underlying39 rfl SM.out) h3 ?_
    simp only [Act.put, List.setIfInBounds_toArray, List.set_cons_zero, List.set_cons_succ]
    refine wpAnyH_ready (rs := [20]) (by kernel_rfl) (by simp) (AllReadyH.cons rfl (fun K hK => ?_) AllReadyH.nil)
    go_simp
    refine (HCY.out _).mono ?_
    rintro e v4 ⟨rfl, hbn⟩
    dsimp only
    refine hK.out _ _ (SortsD.below h3 hbn) (fun h4 => ?_)
    clear hK K hbn h3
    refine wpAnyH_take (i := 21) (oi := { dst := some 54, op := Op.unOp UnOp.not 4 (Operand.tmp 53), type := 4, pos := "outright.go:21", after := #[{ on := 20, ground := Ground.data }, { on := 16, ground := Ground.guard }], guard := some (16, true) }) (v := .bool true) rfl (by kernel_rfl) (by kernel_rfl) (by kernel_rfl) (fun _ _ _ h => h) (Or.inl ⟨by rfl, ?_⟩) h4 ?_
    · intro w' hSw
      go_simp
    simp only [Act.put, List.setIfInBounds_toArray, List.set_cons_zero, List.set_cons_succ]
    refine wpAnyH_take (i := 22) (oi := { dst := some 55, op := Op.pick (Operand.tmp 49) (Operand.tmp 54) (Operand.const (Value.bool false)), type := 4, pos := "outright.go:21", after := #[{ on := 16, ground := Ground.data }, { on := 21, ground := Ground.data }], guard := none }) (v := .bool true) rfl (by kernel_rfl) (by kernel_rfl) (by kernel_rfl) (fun _ _ _ h => h) (Or.inl ⟨by rfl, ?_⟩) h4 ?_
    · intro w' hSw
      go_simp
    simp only [Act.put, List.setIfInBounds_toArray, List.set_cons_zero, List.set_cons_succ]
    refine wpAnyH_take (i := 23) (oi := { dst := some 56, op := Op.move (Operand.tmp 55), type := 4, pos := "outright.go:21", after := #[{ on := 22, ground := Ground.data }, { on := 20, ground := Ground.chain }], guard := none }) (v := .bool true) rfl (by kernel_rfl) (by kernel_rfl) (by kernel_rfl) (fun _ _ _ h => h) (Or.inl ⟨by rfl, ?_⟩) h4 ?_
    · intro w' hSw
      go_simp
    simp only [Act.put, List.setIfInBounds_toArray, List.set_cons_zero, List.set_cons_succ]
    refine wpAnyH_take (i := 24) (oi := { dst := some 57, op := Op.load TI (Operand.tmp 9), type := TI, pos := "outright.go:21", after := #[{ on := 23, ground := Ground.guard }], guard := some (23, true) }) (v := _) rfl (by kernel_rfl) (by kernel_rfl) (by kernel_rfl) (fun _ _ _ h => h) (yieldsIf_load_mid (by rfl) TI (.tmp 9) rfl B 0 rfl (g.map byteV) (.array 32 5) (fun w hS => hS.1.1.1.1.range 0 _ ⟨[], by simp⟩) Tryd.underlying39 rfl SG.out) h4 ?_
    simp only [Act.put, List.setIfInBounds_toArray, List.set_cons_zero, List.set_cons_succ]
    refine wpAnyH_take (i := 25) (oi := { dst := some 58, op := Op.load TI (Operand.tmp 12), type := TI, pos := "outright.go:21", after := #[{ on := 23, ground := Ground.guard }], guard := some (23, true) }) (v := _) rfl (by kernel_rfl) (by kernel_rfl) (by kernel_rfl) (fun _ _ _ h => h) (yieldsIf_load_mid (by rfl) TI (.tmp 12) rfl (B + 1 + 1 + 1) 0 rfl (z.map byteV) (.array 32 5) (fun w hS => hS.1.1.2.range 0 _ ⟨[], by simp⟩) Tryd.underlying39 rfl SZ.out) h4 ?_
    simp only [Act.put, List.setIfInBounds_toArray, List.set_cons_zero, List.set_cons_succ]
    refine wpAnyH_take (i := 26) (oi := { dst := some 59, op := Op.load TI (Operand.tmp 14), type := TI, pos := "outright.go:21", after := #[{ on := 23, ground := Ground.guard }], guard := some (23, true) }) (v := _) rfl (by kernel_rfl) (by kernel_rfl) (by kernel_rfl) (fun _ _ _ h => h) (yieldsIf_load_mid (by rfl) TI (.tmp 14) rfl D 0 rfl (m.map byteV) (.array 32 5) (fun w hS => hS.2.range 0 _ ⟨[], by simp⟩) Tryd.underlying39 rfl SM.out) h4 ?_
    simp only [Act.put, List.setIfInBounds_toArray, List.set_cons_zero, List.set_cons_succ]
    refine wpAnyH_ready (rs := [27]) (by kernel_rfl) (by simp) (AllReadyH.cons rfl (fun K hK => ?_) AllReadyH.nil)
    go_simp
    refine (HCZ.out _).mono ?_
    rintro e v5 ⟨rfl, hbn⟩
    dsimp only
    refine hK.out _ _ (SortsD.below h4 hbn) (fun h5 => ?_)
    clear hK K hbn h4
    refine wpAnyH_take (i := 28) (oi := { dst := some 61, op := Op.unOp UnOp.not 4 (Operand.tmp 60), type := 4, pos := "outright.go:21", after := #[{ on := 27, ground := Ground.data }, { on := 23, ground := Ground.guard }], guard := some (23, true) }) (v := .bool true) rfl (by kernel_rfl) (by kernel_rfl) (by kernel_rfl) (fun _ _ _ h => h) (Or.inl ⟨by rfl, ?_⟩) h5 ?_
    · intro w' hSw
      go_simp
    simp only [Act.put, List.setIfInBounds_toArray, List.set_cons_zero, List.set_cons_succ]
    refine wpAnyH_take (i := 29) (oi := { dst := some 62, op := Op.pick (Operand.tmp 56) (Operand.tmp 61) (Operand.const (Value.bool false)), type := 4, pos := "outright.go:21", after := #[{ on := 23, ground := Ground.data }, { on := 28, ground := Ground.data }], guard := none }) (v := .bool true) rfl (by kernel_rfl) (by kernel_rfl) (by kernel_rfl) (fun _ _ _ h => h) (Or.inl ⟨by rfl, ?_⟩) h5 ?_
    · intro w' hSw
      go_simp
    simp only [Act.put, List.setIfInBounds_toArray, List.set_cons_zero, List.set_cons_succ]
    refine wpAnyH_take (i := 30) (oi := { dst := some 63, op := Op.move (Operand.tmp 62), type := 4, pos := "outright.go:21", after := #[{ on := 29, ground := Ground.data }, { on := 27, ground := Ground.chain }], guard := none }) (v := .bool true) rfl (by kernel_rfl) (by kernel_rfl) (by kernel_rfl) (fun _ _ _ h => h) (Or.inl ⟨by rfl, ?_⟩) h5 ?_
    · intro w' hSw
      go_simp
    simp only [Act.put, List.setIfInBounds_toArray, List.set_cons_zero, List.set_cons_succ]
    refine wpAnyH_take (i := 31) (oi := { dst := some 64, op := Op.move (Operand.tmp 13), type := 42, pos := "outright.go:21", after := #[{ on := 30, ground := Ground.guard }], guard := some (30, true) }) (v := clo B) rfl (by kernel_rfl) (by kernel_rfl) (by kernel_rfl) (fun _ _ _ h => h) (Or.inl ⟨by rfl, ?_⟩) h5 ?_
    · intro w' hSw
      go_simp
    simp only [Act.put, List.setIfInBounds_toArray, List.set_cons_zero, List.set_cons_succ]
    refine wpAnyH_take (i := 32) (oi := { dst := some 65, op := Op.load TI (Operand.tmp 14), type := TI, pos := "outright.go:21", after := #[{ on := 30, ground := Ground.guard }], guard := some (30, true) }) (v := _) rfl (by kernel_rfl) (by kernel_rfl) (by kernel_rfl) (fun _ _ _ h => h) (yieldsIf_load_mid (by rfl) TI (.tmp 14) rfl D 0 rfl (m.map byteV) (.array 32 5) (fun w hS => hS.2.range 0 _ ⟨[], by simp⟩) Tryd.underlying39 rfl SM.out) h5 ?_
    simp only [Act.put, List.setIfInBounds_toArray, List.set_cons_zero, List.set_cons_succ]
    refine wpAnyH_take (i := 33) (oi := { dst := some 66, op := Op.load TI (Operand.tmp 9), type := TI, pos := "outright.go:21", after := #[{ on := 30, ground := Ground.guard }], guard := some (30, true) }) (v := _) rfl (by kernel_rfl) (by kernel_rfl) (by kernel_rfl) (fun _ _ _ h => h) (yieldsIf_load_mid (by rfl) TI (.tmp 9) rfl B 0 rfl (g.map byteV) (.array 32 5) (fun w hS => hS.1.1.1.1.range 0 _ ⟨[], by simp⟩) Tryd.underlying39 rfl SG.out) h5 ?_
    simp only [Act.put, List.setIfInBounds_toArray, List.set_cons_zero, List.set_cons_succ]
    refine wpAnyH_take (i := 35) (oi := { dst := some 68, op := Op.load TI (Operand.tmp 9), type := TI, pos := "outright.go:21", after := #[{ on := 30, ground := Ground.guard }], guard := some (30, true) }) (v := _) rfl (by kernel_rfl) (by kernel_rfl) (by kernel_rfl) (fun _ _ _ h => h) (yieldsIf_load_mid (by rfl) TI (.tmp 9) rfl B 0 rfl (g.map byteV) (.array 32 5) (fun w hS => hS.1.1.1.1.range 0 _ ⟨[], by simp⟩) Tryd.underlying39 rfl SG.out) h5 ?_
    simp only [Act.put, List.setIfInBounds_toArray, List.set_cons_zero, List.set_cons_succ]
    refine wpAnyH_ready (rs := [34]) (by kernel_rfl) (by simp) (AllReadyH.cons rfl (fun K hK => ?_) AllReadyH.nil)
    go_simp
    refine (HMG.out _ _ h5.1.1.1.1).mono ?_
    rintro e v6 ⟨rfl, hbn⟩
    dsimp only
    refine hK.out _ _ (SortsD.below h5 hbn) (fun h6 => ?_)
    clear hK K hbn h5
    refine wpAnyH_take (i := 36) (oi := { dst := some 69, op := Op.binOp BinOp.eql TI (Operand.tmp 67) (Operand.tmp 68) TI, type := 4, pos := "outright.go:21", after := #[{ on := 34, ground := Ground.data }, { on := 35, ground := Ground.data }, { on := 30, ground := Ground.guard }], guard := some (30, true) }) (v := .bool true) rfl (by kernel_rfl) (by kernel_rfl) (by kernel_rfl) (fun _ _ _ h => h) (Or.inl ⟨by rfl, ?_⟩) h6 ?_
    · intro w' hSw
      go_simp
    simp only [Act.put, List.setIfInBounds_toArray, List.set_cons_zero, List.set_cons_succ]
    refine wpAnyH_take (i := 37) (oi := { dst := some 70, op := Op.pick (Operand.tmp 63) (Operand.tmp 69) (Operand.const (Value.bool false)), type := 4, pos := "outright.go:21", after := #[{ on := 30, ground := Ground.data }, { on := 36, ground := Ground.data }], guard := none }) (v := .bool true) rfl (by kernel_rfl) (by kernel_rfl) (by kernel_rfl) (fun _ _ _ h => h) (Or.inl ⟨by rfl, ?_⟩) h6 ?_
    · intro w' hSw
      go_simp
    simp only [Act.put, List.setIfInBounds_toArray, List.set_cons_zero, List.set_cons_succ]
    refine wpAnyH_ready (rs := [38]) (by kernel_rfl) (by simp) (AllReadyH.cons rfl (fun K hK => ?_) AllReadyH.nil)
    go_simp
    refine hK.out _ _ h6 (fun h7 => ?_)
    clear hK K
    refine wpAnyH_done (by kernel_rfl) ?_ _
    rename_i K hK
    refine hK _ _ ?_
    go_wp2
    go_ret
    exact ⟨rfl, h7.1.2⟩
  have HR := Lib.hid HREST
  clear HREST hK5
  have HS5 := Lib.hid (show SortsW w B g x y z w5.drew from ⟨HT5.out, below_drewN hb05 1⟩)
  clear HT5 hb05
  refine wp_region_held_drew (S := fun w' => SortsW w B g x y z w') (by kernel_rfl) HS5.out (fun hHeld => ?_)
  clear HS5
  refine wpAnyH_take (i := 0) (oi := { dst := some 26, op := Op.move (Operand.tmp 13), type := 42, pos := "outright.go:20", after := #[], guard := none }) (v := clo B) rfl (by kernel_rfl) (by kernel_rfl) (by kernel_rfl) (fun _ _ _ h => h) (Or.inl ⟨by rfl, ?_⟩) hHeld ?_
  · intro w' hSw
    go_simp
  simp only [Act.put, List.setIfInBounds_toArray, List.set_cons_zero, List.set_cons_succ]
  refine wpAnyH_take (i := 1) (oi := { dst := some 27, op := Op.move (Operand.tmp 13), type := 42, pos := "outright.go:20", after := #[], guard := none }) (v := clo B) rfl (by kernel_rfl) (by kernel_rfl) (by kernel_rfl) (fun _ _ _ h => h) (Or.inl ⟨by rfl, ?_⟩) hHeld ?_
  · intro w' hSw
    go_simp
  simp only [Act.put, List.setIfInBounds_toArray, List.set_cons_zero, List.set_cons_succ]
  refine wpAnyH_take (i := 2) (oi := { dst := some 28, op := Op.load TI (Operand.tmp 10), type := TI, pos := "outright.go:20", after := #[], guard := none }) (v := _) rfl (by kernel_rfl) (by kernel_rfl) (by kernel_rfl) (fun _ _ _ h => h) (yieldsIf_load_mid (by rfl) TI (.tmp 10) rfl (B + 1) 0 rfl (x.map byteV) (.array 32 5) (fun w hS => hS.1.1.2.1.range 0 _ ⟨[], by simp⟩) Tryd.underlying39 rfl SX.out) hHeld ?_
  simp only [Act.put, List.setIfInBounds_toArray, List.set_cons_zero, List.set_cons_succ]
  refine wpAnyH_take (i := 3) (oi := { dst := some 29, op := Op.load TI (Operand.tmp 11), type := TI, pos := "outright.go:20", after := #[], guard := none }) (v := _) rfl (by kernel_rfl) (by kernel_rfl) (by kernel_rfl) (fun _ _ _ h => h) (yieldsIf_load_mid (by rfl) TI (.tmp 11) rfl (B + 1 + 1) 0 rfl (y.map byteV) (.array 32 5) (fun w hS => hS.1.1.2.2.range 0 _ ⟨[], by simp⟩) Tryd.underlying39 rfl SY.out) hHeld ?_
  simp only [Act.put, List.setIfInBounds_toArray, List.set_cons_zero, List.set_cons_succ]
  refine wpAnyH_take (i := 5) (oi := { dst := some 31, op := Op.load TI (Operand.tmp 12), type := TI, pos := "outright.go:20", after := #[], guard := none }) (v := _) rfl (by kernel_rfl) (by kernel_rfl) (by kernel_rfl) (fun _ _ _ h => h) (yieldsIf_load_mid (by rfl) TI (.tmp 12) rfl (B + 1 + 1 + 1) 0 rfl (z.map byteV) (.array 32 5) (fun w hS => hS.1.2.range 0 _ ⟨[], by simp⟩) Tryd.underlying39 rfl SZ.out) hHeld ?_
  simp only [Act.put, List.setIfInBounds_toArray, List.set_cons_zero, List.set_cons_succ]
  refine wpAnyH_ready (rs := [4, 7]) (by kernel_rfl) (by simp) (AllReadyH.cons rfl (fun K hK => ?_) (AllReadyH.cons rfl (fun K hK => ?_) AllReadyH.nil))
  · go_simp
    refine (HXY.out _ _ hHeld.1.1.1).mono ?_
    rintro e w6 ⟨rfl, hbn⟩
    dsimp only
    refine hK.out _ _ (SortsW.below hHeld hbn) (fun hHeld1 => ?_)
    clear hK K
    refine wpAnyH_ready (rs := [6, 7]) (by kernel_rfl) (by simp) (AllReadyH.cons rfl (fun K hK => ?_) (AllReadyH.cons rfl (fun K hK => ?_) AllReadyH.nil))
    · go_simp
      refine (HM1.out _ _ hHeld1.1.1.1).mono ?_
      rintro e w7 ⟨rfl, hbn6⟩
      dsimp only
      refine hK.out _ _ (SortsW.below hHeld1 hbn6) (fun hHeld2 => ?_)
      clear hK K
      refine wpAnyH_ready (rs := [7]) (by kernel_rfl) (by simp) (AllReadyH.cons rfl (fun K hK => ?_) AllReadyH.nil)
      go_simp
      have HD := Lib.hid (Mem.newAt w7 TI (List.replicate 32 (byteV 0)) rfl)
      refine hK.out _ _ (SortsW.below hHeld2 (belowSelf _ _)) (fun hHeld3 => ?_)
      clear hK K
      refine wpAnyH_ready (rs := [8]) (by kernel_rfl) (by simp) (AllReadyH.cons rfl (fun K hK => ?_) AllReadyH.nil)
      refine step_store_mem HD.out (m.map byteV) TI (.tmp 14) (.tmp 32) rfl rfl rfl rfl SM.out HZM.out OM.out ?_
      intro W7 hm7 hg7
      have hS7 := SortsW.store hHeld3 hg7 hHeld2.lt
      refine hK.out _ _ hS7 (fun _ => ?_)
      clear hK K
      refine wpAnyH_done (by kernel_rfl) ?_ _
      exact HR.out _ _ hS7 hm7
    · go_simp
      have HD := Lib.hid (Mem.newAt w6 TI (List.replicate 32 (byteV 0)) rfl)
      refine hK.out _ _ (SortsW.below hHeld1 (belowSelf _ _)) (fun hHeld2 => ?_)
      clear hK K
      refine wpAnyH_ready (rs := [6]) (by kernel_rfl) (by simp) (AllReadyH.cons rfl (fun K hK => ?_) AllReadyH.nil)
      go_simp
      refine (HM1.out _ _ hHeld2.1.1.1).mono ?_
      rintro e w7 ⟨rfl, hbn6⟩
      dsimp only
      refine hK.out _ _ (SortsW.below hHeld2 hbn6) (fun hHeld3 => ?_)
      clear hK K
      have HD := Lib.hid (HD.out.below hbn6 HD.out.lt)
      refine wpAnyH_ready (rs := [8]) (by kernel_rfl) (by simp) (AllReadyH.cons rfl (fun K hK => ?_) AllReadyH.nil)
      refine step_store_mem HD.out (m.map byteV) TI (.tmp 14) (.tmp 32) rfl rfl rfl rfl SM.out HZM.out OM.out ?_
      intro W7 hm7 hg7
      have hS7 := SortsW.store hHeld3 hg7 hHeld1.lt
      refine hK.out _ _ hS7 (fun _ => ?_)
      clear hK K
      refine wpAnyH_done (by kernel_rfl) ?_ _
      exact HR.out _ _ hS7 hm7
  · go_simp
    have HD := Lib.hid (Mem.newAt w5 TI (List.replicate 32 (byteV 0)) rfl)
    refine hK.out _ _ (SortsW.below hHeld (belowSelf _ _)) (fun hHeld1 => ?_)
    clear hK K
    refine wpAnyH_ready (rs := [4]) (by kernel_rfl) (by simp) (AllReadyH.cons rfl (fun K hK => ?_) AllReadyH.nil)
    go_simp
    refine (HXY.out _ _ hHeld1.1.1.1).mono ?_
    rintro e w6 ⟨rfl, hbn⟩
    dsimp only
    refine hK.out _ _ (SortsW.below hHeld1 hbn) (fun hHeld2 => ?_)
    clear hK K
    have HD := Lib.hid (HD.out.drew.below hbn HD.out.lt)
    refine wpAnyH_ready (rs := [6]) (by kernel_rfl) (by simp) (AllReadyH.cons rfl (fun K hK => ?_) AllReadyH.nil)
    go_simp
    refine (HM1.out _ _ hHeld2.1.1.1).mono ?_
    rintro e w7 ⟨rfl, hbn6⟩
    dsimp only
    refine hK.out _ _ (SortsW.below hHeld2 hbn6) (fun hHeld3 => ?_)
    clear hK K
    have HD := Lib.hid (HD.out.below hbn6 HD.out.lt)
    refine wpAnyH_ready (rs := [8]) (by kernel_rfl) (by simp) (AllReadyH.cons rfl (fun K hK => ?_) AllReadyH.nil)
    refine step_store_mem HD.out (m.map byteV) TI (.tmp 14) (.tmp 32) rfl rfl rfl rfl SM.out HZM.out OM.out ?_
    intro W7 hm7 hg7
    have hS7 := SortsW.store hHeld3 hg7 hHeld.lt
    refine hK.out _ _ hS7 (fun _ => ?_)
    clear hK K
    refine wpAnyH_done (by kernel_rfl) ?_ _
    exact HR.out _ _ hS7 hm7
end Go.Proofs.YtjbjkkgkefpggaaDoor
