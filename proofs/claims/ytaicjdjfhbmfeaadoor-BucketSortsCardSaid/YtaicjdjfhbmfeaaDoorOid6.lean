/-
  Package oid: Closer.
-/
import Derived.Test.YtaicjdjfhbmfeaaDoorOid5
namespace Go.Proofs.YtaicjdjfhbmfeaaDoor
open Go.RowKit Crv

abbrev TI : TypeId := 36
theorem ld_id (p : Value) : Instr.loadAt TI p = ldRow TI p := rfl
theorem ld_id_at {w : World} {b : Nat} {l : List UInt8} (h : Mem w b TI (l.map byteV)) (hl : l.length = 32) : (ldRow TI (.pointer (some ⟨b, 0, none⟩))).run Tryd.prog w = .ok (.agg (l.map byteV).toArray) w := by
  have := ldRow_at (P := Tryd.prog) Tryd.underlying36 (by kernel_rfl) w b 0 (h.hasRow 0 32 (by simp [hl]))
  rw [this, h.row 0 32 (l.map byteV) ⟨[], by simp⟩ (by simp [hl])]
/-- Three names in memory. -/
def Three (w : World) (b : Nat) (g x y : List UInt8) : Prop := Mem w b TI (g.map byteV) ∧ Mem w (b + 1) TI (x.map byteV) ∧ Mem w (b + 1 + 1) TI (y.map byteV)
theorem Three.below {w w' : World} {b : Nat} {g x y : List UInt8} (h : Three w b g x y) (hb : Below w.heap.size w w') : Three w' b g x y := ⟨h.1.below hb h.1.lt, h.2.1.below hb h.2.1.lt, h.2.2.below hb h.2.2.lt⟩
set_option maxHeartbeats 2000000 in
set_option maxRecDepth 100000 in
theorem closer_any (g x y : List UInt8) (w : World) (hg : g.length = 32) (hx : x.length = 32) (hy : y.length = 32) :
    Calls Tryd.prog 25 #[.agg (g.map byteV).toArray, .agg (x.map byteV).toArray, .agg (y.map byteV).toArray] w fun e w' => e = .returned (.bool (decide (cmpOf (xorOf g x) (xorOf g y) < 0))) ∧ Below w.heap.size w w' := by
  have HG := Lib.hid hg
  have HX := Lib.hid hx
  have HY := Lib.hid hy
  have HXG := Lib.hid (fun W => xor_any g x W hg hx)
  have HYG := Lib.hid (fun W => xor_any g y W hg hy)
  have HCM := Lib.hid (fun W => compare_any (xorOf g x) (xorOf g y) W (length_xorOf g x hg hx) (length_xorOf g y hg hy))
  obtain ⟨W0, hW0⟩ : ∃ W0, W0 = ((w.alloc (.cells (g.map byteV).toArray TI)).alloc (.cells (x.map byteV).toArray TI)).alloc (.cells (y.map byteV).toArray TI) := ⟨_, rfl⟩
  have T0 := Lib.hid (show Three W0.drew w.heap.size g x y from by
    rw [hW0]
    exact ⟨((Mem.newAt w TI (g.map byteV) rfl).alloc _).alloc _, (Mem.newAt (w.alloc _) TI (x.map byteV) (by simp)).alloc _, Mem.newAt _ TI (y.map byteV) (by simp)⟩)
  have hB0 : Below w.heap.size w W0.drew := by rw [hW0]; exact below_drewN ((((Below.refl _ _).alloc (Nat.le_refl _) _).alloc (by simp) _).alloc (by simp; omega) _) 1
  have SG := Lib.hid (sz_id g hg)
  have SX := Lib.hid (sz_id x hx)
  have SY := Lib.hid (sz_id y hy)
  clear hg hx hy
  go_enter Tryd.func25, Tryd.ntmps25
  go_wp2_with fail
  rw [← hW0]
  clear hW0
  refine wp_region_held_drew (S := fun w' => Three w' w.heap.size g x y) (by kernel_rfl) T0.out (fun hHeld => ?_)
  refine wpAnyH_take (i := 0) (oi := ⟨some 7, .load TI (.tmp 3), TI, "oid.go:54", #[], none⟩) (v := _) rfl (by kernel_rfl) (by kernel_rfl) (by kernel_rfl) (fun _ _ _ h => h) (yieldsIf_load_mid (by rfl) TI (.tmp 3) rfl w.heap.size 0 rfl (g.map byteV) (.array 32 5) (fun w hS => hS.1.range 0 _ ⟨[], by simp⟩) Tryd.underlying36 rfl SG.out) hHeld ?_
  simp only [Act.put, List.setIfInBounds_toArray, List.set_cons_zero, List.set_cons_succ]
  refine wpAnyH_take (i := 1) (oi := ⟨some 8, .load TI (.tmp 4), TI, "oid.go:54", #[], none⟩) (v := _) rfl (by kernel_rfl) (by kernel_rfl) (by kernel_rfl) (fun _ _ _ h => h) (yieldsIf_load_mid (by rfl) TI (.tmp 4) rfl (w.heap.size + 1) 0 rfl (x.map byteV) (.array 32 5) (fun w hS => hS.2.1.range 0 _ ⟨[], by simp⟩) Tryd.underlying36 rfl SX.out) hHeld ?_
  simp only [Act.put, List.setIfInBounds_toArray, List.set_cons_zero, List.set_cons_succ]
  refine wpAnyH_take (i := 3) (oi := ⟨some 10, .load TI (.tmp 3), TI, "oid.go:54", #[], none⟩) (v := _) rfl (by kernel_rfl) (by kernel_rfl) (by kernel_rfl) (fun _ _ _ h => h) (yieldsIf_load_mid (by rfl) TI (.tmp 3) rfl w.heap.size 0 rfl (g.map byteV) (.array 32 5) (fun w hS => hS.1.range 0 _ ⟨[], by simp⟩) Tryd.underlying36 rfl SG.out) hHeld ?_
  simp only [Act.put, List.setIfInBounds_toArray, List.set_cons_zero, List.set_cons_succ]
  refine wpAnyH_take (i := 4) (oi := ⟨some 11, .load TI (.tmp 5), TI, "oid.go:54", #[], none⟩) (v := _) rfl (by kernel_rfl) (by kernel_rfl) (by kernel_rfl) (fun _ _ _ h => h) (yieldsIf_load_mid (by rfl) TI (.tmp 5) rfl (w.heap.size + 1 + 1) 0 rfl (y.map byteV) (.array 32 5) (fun w hS => hS.2.2.range 0 _ ⟨[], by simp⟩) Tryd.underlying36 rfl SY.out) hHeld ?_
  simp only [Act.put, List.setIfInBounds_toArray, List.set_cons_zero, List.set_cons_succ]
  refine wpAnyH_ready (rs := [2]) (by kernel_rfl) (by simp) (AllReadyH.cons rfl (fun K hK => ?_) AllReadyH.nil)
  go_simp
  refine (HXG.out _).mono ?_
  rintro e w1 ⟨rfl, hb1⟩
  dsimp only
  refine hK.out _ _ (Three.below hHeld hb1) (fun hHeld1 => ?_)
  clear hK K
  refine wpAnyH_ready (rs := [5]) (by kernel_rfl) (by simp) (AllReadyH.cons rfl (fun K hK => ?_) AllReadyH.nil)
  go_simp
  refine (HYG.out _).mono ?_
  rintro e w2 ⟨rfl, hb2⟩
  dsimp only
  refine hK.out _ _ (Three.below hHeld1 hb2) (fun hHeld2 => ?_)
  clear hK K
  refine wpAnyH_ready (rs := [6]) (by kernel_rfl) (by simp) (AllReadyH.cons rfl (fun K hK => ?_) AllReadyH.nil)
  go_simp
  refine (HCM.out _).mono ?_
  rintro e w3 ⟨rfl, hb3⟩
  dsimp only
  refine hK.out _ _ (Three.below hHeld2 hb3) (fun hHeld3 => ?_)
  clear hK K
  obtain ⟨z, hz⟩ : ∃ z, z = cmpOf (xorOf g x) (xorOf g y) := ⟨_, rfl⟩
  rw [← hz]
  have HZ := Lib.hid hz
  clear hz
  refine wpAnyH_ready (rs := [7]) (by kernel_rfl) (by simp) (AllReadyH.cons rfl (fun K hK => ?_) AllReadyH.nil)
  go_simp
  refine hK.out _ _ hHeld3 (fun hh7 => ?_)
  clear hK K
  refine wpAnyH_ready (rs := [8]) (by kernel_rfl) (by simp) (AllReadyH.cons rfl (fun K hK => ?_) AllReadyH.nil)
  go_simp
  refine hK.out _ _ hHeld3 (fun hh8 => ?_)
  clear hK K
  refine wpAnyH_done (by kernel_rfl) ?_ _
  rename_i K hK
  refine hK _ _ ?_
  go_wp2
  go_ret
  exact ⟨by rw [← HZ.out]; rfl, below_then (below_then (below_then hB0 hb1) hb2) hb3⟩
end Go.Proofs.YtaicjdjfhbmfeaaDoor
