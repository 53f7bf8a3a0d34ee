/-
  Several texts in one: their sentences stand at their heads.
-/
import Derived.Test.YtaicjdjfhbmfeaaDoorBktD
import Derived.Sort.Grow
/-
  What the comparison of two places does: oid.Compare, cmp.Compare, cmp.Or, with worlds that have grown.
-/
namespace Go.Proofs.YtaicjdjfhbmfeaaDoor
open Go.RowKit Go.Sort Crv

/-- Some draws, some blocks laid behind. -/
def Gw (w w' : World) : Prop := ∃ q os, w' = grow (w.drewN q) os
theorem Gw.refl (w : World) : Gw w w := ⟨0, #[], by rw [grow_empty]; rfl⟩
theorem Gw.trans {a b c : World} (h : Gw a b) (k : Gw b c) : Gw a c := by
  obtain ⟨q, os, rfl⟩ := h
  obtain ⟨q', os', rfl⟩ := k
  exact ⟨q + q', os ++ os', by simp [grow, World.drewN, Nat.add_assoc, Array.append_assoc]⟩
theorem Gw.alloc (w : World) (o : Obj) : Gw w (w.alloc o) := ⟨0, #[o], by rw [alloc_eq_grow]; rfl⟩
theorem Gw.drew (w : World) : Gw w w.drew := ⟨1, #[], by rw [grow_empty]; rfl⟩
theorem Gw.below {w w' : World} (h : Gw w w') : Below w.heap.size w w' := by
  obtain ⟨q, os, rfl⟩ := h
  refine ⟨rfl, rfl, rfl, by simp [grow], fun k hk => ?_⟩
  show (w.heap ++ os)[k]? = _
  rw [Array.getElem?_append_left hk]
set_option maxRecDepth 100000 in
theorem compare_gw (x y : List UInt8) (w : World) (hx : x.length = 32) (hy : y.length = 32) :
    Calls Tryd.prog 52 #[.agg (x.map byteV).toArray, .agg (y.map byteV).toArray] w fun e w' => e = .returned (.int .i64 (cmpOf x y)) ∧ Gw w w' := by
  have HX := Lib.hid hx
  have HY := Lib.hid hy
  clear hx hy
  have hcm := fun W hW hW' => bytesCompare_any (W := W) (g := w.heap.size) (g' := w.heap.size + 1) (t := 36) (t' := 36) (x := x) (y := y) hW hW' HX.out HY.out
  have HCM := Lib.hid hcm
  have H0 := Lib.hid ((Mem.newAt w 36 (x.map byteV) rfl).alloc (.cells (y.map byteV).toArray 36))
  have H1 := Lib.hid (Mem.newAt (w.alloc (.cells (x.map byteV).toArray 36)) 36 (y.map byteV) (show w.heap.size + 1 = _ by simp))
  clear hcm
  go_enter Tryd.func52, Tryd.ntmps52
  go_wp2_with fail
  go_region_held3 (fun w' => Mem w' w.heap.size 36 (x.map byteV) ∧ Mem w' (w.heap.size + 1) 36 (y.map byteV))
    (first
      | (exact ⟨H0.out, H1.out⟩)
      | (assumption))
    (first
      | (go_at_call 76; refine (HCM.out _ ?_ ?_).mono ?_; (exact H0.out); (exact H1.out); rintro e w' ⟨rfl, rfl⟩))
  rename_i K hK hHe
  refine hK _ _ ?_
  go_wp2
  go_ret
  exact ⟨rfl, ((Gw.alloc w _).trans (Gw.alloc _ _)).trans (Gw.drew _)⟩
/-- How two numbers compare. -/
def cmpI (a b : Int) : Int := if a < b then -1 else if b < a then 1 else 0
set_option maxRecDepth 100000 in
theorem isNaN_any (a : Int) (w : World) : Calls Tryd.prog 77 #[iv a] w fun e w' => e = .returned (.bool false) ∧ w = w' := by
  go_enter Tryd.func77, Tryd.ntmps77
  go_wp2_with fail
  go_ret
  exact ⟨by simp, rfl⟩
set_option maxRecDepth 100000 in
theorem cmpCompare_any (a b : Int) (w : World) : Calls Tryd.prog 53 #[iv a, iv b] w fun e w' => e = .returned (iv (cmpI a b)) ∧ w = w' := by
  by_cases h1 : a < b
  · have e : cmpI a b = -1 := by unfold cmpI; rw [if_pos h1]
    rw [e]
    go_enter Tryd.func53, Tryd.ntmps53
    go_wp2_with fail
    refine (isNaN_any a _).mono ?_
    rintro e w' ⟨rfl, rfl⟩
    go_wp2_with fail
    refine (isNaN_any b _).mono ?_
    rintro e w' ⟨rfl, rfl⟩
    go_wp2_with fail
    go_ret
    exact ⟨rfl, rfl⟩
  · by_cases h2 : b < a
    · have e : cmpI a b = 1 := by unfold cmpI; rw [if_neg h1, if_pos h2]
      rw [e]
      go_enter Tryd.func53, Tryd.ntmps53
      go_wp2_with fail
      refine (isNaN_any a _).mono ?_
      rintro e w' ⟨rfl, rfl⟩
      go_wp2_with fail
      refine (isNaN_any b _).mono ?_
      rintro e w' ⟨rfl, rfl⟩
      go_wp2_with fail
      go_ret
      exact ⟨rfl, rfl⟩
    · have e : cmpI a b = 0 := by unfold cmpI; rw [if_neg h1, if_neg h2]
      rw [e]
      go_enter Tryd.func53, Tryd.ntmps53
      go_wp2_with fail
      refine (isNaN_any a _).mono ?_
      rintro e w' ⟨rfl, rfl⟩
      go_wp2_with fail
      refine (isNaN_any b _).mono ?_
      rintro e w' ⟨rfl, rfl⟩
      go_wp2_with fail
      go_ret
      exact ⟨rfl, rfl⟩
set_option maxRecDepth 100000 in
theorem or_any (a b : Int) (g : Nat) (w : World) (h0 : w.cell? ⟨g, 0, none⟩ = some (iv a)) (h1 : w.cell? ⟨g, 1, none⟩ = some (iv b)) : Calls Tryd.prog 51 #[.slice (some ⟨g, 0, none⟩) 2 2] w fun e w' =>
    e = .returned (iv (if a ≠ 0 then a else b)) ∧ w = w' := by
  have H0 := Lib.hid h0
  have H1 := Lib.hid h1
  clear h0 h1
  go_enter Tryd.func51, Tryd.ntmps51
  go_wp2_with fail
  go_loop [8] (fun k => ∃ i : Nat, i ≤ 2 ∧ k = .int .i64 i ∧ (0 < i → a = 0) ∧ (1 < i → b = 0)) (fun k => 2 - (intOf k).toNat)
  case atStart => exact ⟨0, by omega, rfl, by omega, by omega⟩
  case round =>
    obtain ⟨i, hi, rfl, ha, hb⟩ := hrel
    have hcase : i = 0 ∨ i = 1 ∨ i = 2 := by omega
    rcases hcase with rfl | rfl | rfl
    · have h0 := H0.out
      clear ha hb
      by_cases e : a = 0
      · subst e
        go_wp2_with fail
        go_round
        case rel => exact ⟨1, by omega, by go_num, by simp, by simp⟩
        case measure => simp [intOf]
      · have hne : (a != 0) = true := by simpa using e
        go_wp2_with fail
        go_ret
        exact ⟨by simp, rfl⟩
    · have h1 := H1.out
      have ha0 := ha (by omega)
      subst ha0
      clear ha hb
      by_cases e : b = 0
      · subst e
        go_wp2_with fail
        go_round
        case rel => exact ⟨2, by omega, by go_num, by simp, by simp⟩
        case measure => simp [intOf]
      · have hne : (b != 0) = true := by simpa using e
        go_wp2_with fail
        go_ret
        exact ⟨by simp, rfl⟩
    · have ha0 := ha (by omega)
      have hb0 := hb (by omega)
      subst ha0
      subst hb0
      clear ha hb
      go_wp2_with fail
      go_ret
      exact ⟨by simp, rfl⟩
end Go.Proofs.YtaicjdjfhbmfeaaDoor

/-
  The comparison of two places.
-/
namespace Go.Proofs.YtaicjdjfhbmfeaaDoor
open Go.RowKit Go.Sort Crv

abbrev Tpl : TypeId := 88
/-- A place's cells. -/
def plC (a : Int) (d : List UInt8) : List Value := iv a :: d.map byteV
theorem plC_rng {w : World} {g : Nat} {a : Int} {d : List UInt8} (h : Mem w g Tpl (plC a d)) : w.rangeAt g 1 (d.map byteV) := fun j u hu => by
  rw [h.cell (1 + j)]
  unfold plC
  rw [Nat.add_comm, List.getElem?_cons_succ]
  exact hu
set_option maxHeartbeats 2000000 in
set_option maxRecDepth 100000 in
theorem sort1_any (a b : Int) (x y : List UInt8) (hx : x.length = 32) (hy : y.length = 32) (w : World) : Calls Tryd.prog 50 #[.agg (plC a x).toArray, .agg (plC b y).toArray] w fun e w' =>
    e = .returned (iv (if cmpOf x y ≠ 0 then cmpOf x y else cmpI a b)) ∧ Gw w w' := by
  have HCM := Lib.hid (fun W => compare_gw x y W hx hy)
  have HCI := Lib.hid (fun W => cmpCompare_any a b W)
  have SZX := Lib.hid (sz_id x hx)
  have SZY := Lib.hid (sz_id y hy)
  obtain ⟨c, hc⟩ : ∃ c, c = cmpOf x y := ⟨_, rfl⟩
  obtain ⟨i, hi⟩ : ∃ i, i = cmpI a b := ⟨_, rfl⟩
  simp only [← hc] at HCM ⊢
  simp only [← hi] at HCI ⊢
  obtain ⟨r, hr⟩ : ∃ r, r = if c ≠ 0 then c else i := ⟨_, rfl⟩
  have HR := Lib.hid hr.symm
  rw [← hr]
  have HG1 := Lib.hid (show Gw w ((w.alloc (.cells (plC a x).toArray Tpl)).alloc (.cells (plC b y).toArray Tpl)).drew from ((Gw.alloc w _).trans (Gw.alloc _ _)).trans (Gw.drew _))
  have HS0 := Lib.hid (show Mem ((w.alloc (.cells (plC a x).toArray Tpl)).alloc (.cells (plC b y).toArray Tpl)).drew w.heap.size Tpl (plC a x) ∧ Mem ((w.alloc (.cells (plC a x).toArray Tpl)).alloc (.cells (plC b y).toArray Tpl)).drew (w.heap.size + 1) Tpl (plC b y) from
    ⟨((Mem.newAt w Tpl (plC a x) rfl).alloc _).drew, (Mem.newAt (w.alloc (.cells (plC a x).toArray Tpl)) Tpl (plC b y) (show w.heap.size + 1 = _ by simp)).drew⟩)
  clear hc hi hr hx hy
  go_enter Tryd.func50, Tryd.ntmps50
  go_wp2_with fail
  refine wp_region_held_drew (S := fun w' => Mem w' w.heap.size Tpl (plC a x) ∧ Mem w' (w.heap.size + 1) Tpl (plC b y)) (by kernel_rfl) HS0.out (fun hHeld => ?_)
  refine wpAnyH_take (i := 0) (oi := { dst := some 5, op := Op.fieldAddr 88 (Operand.tmp 2) 1, type := 0, pos := "bucket.go:125", after := #[], guard := none }) (v := .pointer (some ⟨w.heap.size, 1, none⟩)) rfl (by kernel_rfl) (by kernel_rfl) (by kernel_rfl) (fun _ _ _ h => h) (Or.inl ⟨by rfl, ?_⟩) hHeld ?_
  · intro w' hSw
    have y0 : w'.cell? ⟨w.heap.size, 0, none⟩ = some (iv a) := hSw.1.cell 0
    have y1 : w'.cell? ⟨w.heap.size + 1, 0, none⟩ = some (iv b) := hSw.2.cell 0
    clear hSw
    go_simp
  simp only [Act.put, List.setIfInBounds_toArray, List.set_cons_zero, List.set_cons_succ]
  refine wpAnyH_take (i := 1) (oi := { dst := some 6, op := Op.load 36 (Operand.tmp 5), type := 36, pos := "bucket.go:125", after := #[{ on := 0, ground := Ground.data }], guard := none }) (v := _) rfl (by kernel_rfl) (by kernel_rfl) (by kernel_rfl) (fun _ _ _ h => h) (yieldsIf_load_mid (by rfl) TI (.tmp 5) rfl w.heap.size (1) rfl (x.map byteV) (.array 32 5) (fun w hS => plC_rng hS.1) Tryd.underlying36 rfl SZX.out) hHeld ?_
  simp only [Act.put, List.setIfInBounds_toArray, List.set_cons_zero, List.set_cons_succ]
  refine wpAnyH_take (i := 2) (oi := { dst := some 7, op := Op.fieldAddr 88 (Operand.tmp 3) 1, type := 0, pos := "bucket.go:125", after := #[], guard := none }) (v := .pointer (some ⟨w.heap.size + 1, 1, none⟩)) rfl (by kernel_rfl) (by kernel_rfl) (by kernel_rfl) (fun _ _ _ h => h) (Or.inl ⟨by rfl, ?_⟩) hHeld ?_
  · intro w' hSw
    have y0 : w'.cell? ⟨w.heap.size, 0, none⟩ = some (iv a) := hSw.1.cell 0
    have y1 : w'.cell? ⟨w.heap.size + 1, 0, none⟩ = some (iv b) := hSw.2.cell 0
    clear hSw
    go_simp
  simp only [Act.put, List.setIfInBounds_toArray, List.set_cons_zero, List.set_cons_succ]
  refine wpAnyH_take (i := 3) (oi := { dst := some 8, op := Op.load 36 (Operand.tmp 7), type := 36, pos := "bucket.go:125", after := #[{ on := 2, ground := Ground.data }], guard := none }) (v := _) rfl (by kernel_rfl) (by kernel_rfl) (by kernel_rfl) (fun _ _ _ h => h) (yieldsIf_load_mid (by rfl) TI (.tmp 7) rfl (w.heap.size + 1) (1) rfl (y.map byteV) (.array 32 5) (fun w hS => plC_rng hS.2) Tryd.underlying36 rfl SZY.out) hHeld ?_
  simp only [Act.put, List.setIfInBounds_toArray, List.set_cons_zero, List.set_cons_succ]
  refine wpAnyH_take (i := 5) (oi := { dst := some 10, op := Op.fieldAddr 88 (Operand.tmp 2) 0, type := 0, pos := "bucket.go:125", after := #[], guard := none }) (v := .pointer (some ⟨w.heap.size, 0, none⟩)) rfl (by kernel_rfl) (by kernel_rfl) (by kernel_rfl) (fun _ _ _ h => h) (Or.inl ⟨by rfl, ?_⟩) hHeld ?_
  · intro w' hSw
    have y0 : w'.cell? ⟨w.heap.size, 0, none⟩ = some (iv a) := hSw.1.cell 0
    have y1 : w'.cell? ⟨w.heap.size + 1, 0, none⟩ = some (iv b) := hSw.2.cell 0
    clear hSw
    go_simp
  simp only [Act.put, List.setIfInBounds_toArray, List.set_cons_zero, List.set_cons_succ]
  refine wpAnyH_take (i := 6) (oi := { dst := some 11, op := Op.load 3 (Operand.tmp 10), type := 3, pos := "bucket.go:125", after := #[{ on := 5, ground := Ground.data }], guard := none }) (v := iv a) rfl (by kernel_rfl) (by kernel_rfl) (by kernel_rfl) (fun _ _ _ h => h) (Or.inl ⟨by rfl, ?_⟩) hHeld ?_
  · intro w' hSw
    have y0 : w'.cell? ⟨w.heap.size, 0, none⟩ = some (iv a) := hSw.1.cell 0
    have y1 : w'.cell? ⟨w.heap.size + 1, 0, none⟩ = some (iv b) := hSw.2.cell 0
    clear hSw
    go_simp
  simp only [Act.put, List.setIfInBounds_toArray, List.set_cons_zero, List.set_cons_succ]
  refine wpAnyH_take (i := 7) (oi := { dst := some 12, op := Op.fieldAddr 88 (Operand.tmp 3) 0, type := 0, pos := "bucket.go:125", after := #[], guard := none }) (v := .pointer (some ⟨w.heap.size + 1, 0, none⟩)) rfl (by kernel_rfl) (by kernel_rfl) (by kernel_rfl) (fun _ _ _ h => h) (Or.inl ⟨by rfl, ?_⟩) hHeld ?_
  · intro w' hSw
    have y0 : w'.cell? ⟨w.heap.size, 0, none⟩ = some (iv a) := hSw.1.cell 0
    have y1 : w'.cell? ⟨w.heap.size + 1, 0, none⟩ = some (iv b) := hSw.2.cell 0
    clear hSw
    go_simp
  simp only [Act.put, List.setIfInBounds_toArray, List.set_cons_zero, List.set_cons_succ]
  refine wpAnyH_take (i := 8) (oi := { dst := some 13, op := Op.load 3 (Operand.tmp 12), type := 3, pos := "bucket.go:125", after := #[{ on := 7, ground := Ground.data }], guard := none }) (v := iv b) rfl (by kernel_rfl) (by kernel_rfl) (by kernel_rfl) (fun _ _ _ h => h) (Or.inl ⟨by rfl, ?_⟩) hHeld ?_
  · intro w' hSw
    have y0 : w'.cell? ⟨w.heap.size, 0, none⟩ = some (iv a) := hSw.1.cell 0
    have y1 : w'.cell? ⟨w.heap.size + 1, 0, none⟩ = some (iv b) := hSw.2.cell 0
    clear hSw
    go_simp
  simp only [Act.put, List.setIfInBounds_toArray, List.set_cons_zero, List.set_cons_succ]
  refine wpAnyH_ready (rs := [4]) (by kernel_rfl) (by simp) (AllReadyH.cons rfl (fun K hK => ?_) AllReadyH.nil)
  go_simp
  refine (HCM.out _).mono ?_
  rintro e w2 ⟨rfl, hgw⟩
  dsimp only
  have HG2 := Lib.hid (HG1.out.trans hgw)
  have HS2 := Lib.hid (show Mem w2 w.heap.size Tpl (plC a x) ∧ Mem w2 (w.heap.size + 1) Tpl (plC b y) from ⟨hHeld.1.below hgw.below hHeld.1.lt, hHeld.2.below hgw.below hHeld.2.lt⟩)
  clear hgw
  refine hK.out _ _ HS2.out (fun hH1 => ?_)
  clear hK K
  refine wpAnyH_ready (rs := [9]) (by kernel_rfl) (by simp) (AllReadyH.cons rfl (fun K hK => ?_) AllReadyH.nil)
  go_simp
  refine (HCI.out _).mono ?_
  rintro e w3 ⟨rfl, rfl⟩
  dsimp only
  refine hK.out _ _ HS2.out (fun hH2 => ?_)
  clear hK K
  refine wpAnyH_ready (rs := [10]) (by kernel_rfl) (by simp) (AllReadyH.cons rfl (fun K hK => ?_) AllReadyH.nil)
  go_simp
  refine hK.out _ _ ⟨HS2.out.1.alloc _, HS2.out.2.alloc _⟩ (fun hH3 => ?_)
  clear hK K
  refine wpAnyH_ready (rs := [11]) (by kernel_rfl) (by simp) (AllReadyH.cons rfl (fun K hK => ?_) AllReadyH.nil)
  go_simp
  refine (or_any c i w2.heap.size _ ((Mem.new w2 Tin [iv c, iv i]).cell 0) ((Mem.new w2 Tin [iv c, iv i]).cell 1)).mono ?_
  rintro e w4 ⟨rfl, rfl⟩
  dsimp only
  rw [HR.out]
  refine hK.out _ _ ⟨HS2.out.1.alloc _, HS2.out.2.alloc _⟩ (fun hH4 => ?_)
  clear hK K
  refine wpAnyH_take (i := 12) (oi := { dst := some 4, op := Op.assign (Operand.tmp 16), type := 3, pos := "bucket.go:125", after := #[{ on := 11, ground := Ground.data }, { on := 11, ground := Ground.chain }, { on := 0, ground := Ground.phase }, { on := 1, ground := Ground.phase }, { on := 2, ground := Ground.phase }, { on := 3, ground := Ground.phase }, { on := 4, ground := Ground.phase }, { on := 5, ground := Ground.phase }, { on := 6, ground := Ground.phase }, { on := 7, ground := Ground.phase }, { on := 8, ground := Ground.phase }, { on := 9, ground := Ground.phase }, { on := 10, ground := Ground.phase }, { on := 11, ground := Ground.phase }], guard := none }) (v := iv r) rfl (by kernel_rfl) (by kernel_rfl) (by kernel_rfl) (fun _ _ _ h => h) (Or.inl ⟨by rfl, ?_⟩) hH4 ?_
  · intro w' hSw
    have y0 : w'.cell? ⟨w.heap.size, 0, none⟩ = some (iv a) := hSw.1.cell 0
    have y1 : w'.cell? ⟨w.heap.size + 1, 0, none⟩ = some (iv b) := hSw.2.cell 0
    clear hSw
    go_simp
  simp only [Act.put, List.setIfInBounds_toArray, List.set_cons_zero, List.set_cons_succ]
  refine wpAnyH_done (by kernel_rfl) ?_ _
  rename_i Kz hKz
  refine hKz _ _ ?_
  go_wp2_with fail
  go_ret
  exact ⟨rfl, HG2.out.trans (Gw.alloc _ _)⟩
end Go.Proofs.YtaicjdjfhbmfeaaDoor
