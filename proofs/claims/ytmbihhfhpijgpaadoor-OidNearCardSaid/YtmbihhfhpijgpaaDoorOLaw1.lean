/-
  OidNear: the walk.
-/
import Derived.Test.YtmbihhfhpijgpaaDoorOid13
namespace Go.Proofs.YtmbihhfhpijgpaaDoor
open Go.RowKit Crv

attribute [local go_sem ↓] ld_id
set_option maxHeartbeats 4000000 in
set_option maxRecDepth 100000 in
theorem oidNear_walk (a b c : List UInt8) (w : World) (hc : Consts w) :
    Calls Tryd.prog 7 #[.string (str a), .string (str b), .string (str c)] w fun e w' => e = .returned (.bool true) ∧ Below w.heap.size w w' := by
  have HC := Lib.hid hc
  clear hc
  have HNA := Lib.hid (name_any a)
  have HNB := Lib.hid (name_any b)
  have HNC := Lib.hid (name_any c)
  obtain ⟨x, hx⟩ : ∃ x, x = nameOf a := ⟨_, rfl⟩
  obtain ⟨y, hy⟩ : ∃ y, y = nameOf b := ⟨_, rfl⟩
  obtain ⟨z, hz⟩ : ∃ z, z = nameOf c := ⟨_, rfl⟩
  have lx : x.length = 32 := by rw [hx]; exact length_nameOf _
  have ly : y.length = 32 := by rw [hy]; exact length_nameOf _
  have lz : z.length = 32 := by rw [hz]; exact length_nameOf _
  rw [← hx] at HNA
  rw [← hy] at HNB
  rw [← hz] at HNC
  clear hx hy hz
  have SX := Lib.hid (sz_id x lx)
  have SY := Lib.hid (sz_id y ly)
  have SZ := Lib.hid (sz_id z lz)
  have OX := Lib.hid (one_bytes x)
  have OY := Lib.hid (one_bytes y)
  have OZ := Lib.hid (one_bytes z)
  have HZX := Lib.hid (show (List.replicate 32 (byteV 0)).length = (x.map byteV).length by rw [List.length_map, lx]; rfl)
  have HZY := Lib.hid (show (List.replicate 32 (byteV 0)).length = (y.map byteV).length by rw [List.length_map, ly]; rfl)
  have HZZ := Lib.hid (show (List.replicate 32 (byteV 0)).length = (z.map byteV).length by rw [List.length_map, lz]; rfl)
  have LX := Lib.hid lx
  have LY := Lib.hid ly
  have LZ := Lib.hid lz
  have HCLO := Lib.hid (closer_eq x y z lx ly lz)
  have HCB := Lib.hid (cmpOf_bounds x y lx ly)
  have HLS := Lib.hid (cmpOf_less x y lx ly)
  have HGR := Lib.hid (cmpOf_more x y lx ly)
  clear lx ly lz
  go_enter Tryd.func7, Tryd.ntmps7
  go_wp2_with fail
  refine (HNA.out _).mono ?_
  rintro e w1 ⟨rfl, hb1⟩
  go_wp2_with fail
  refine (HNB.out _).mono ?_
  rintro e w2 ⟨rfl, hb2⟩
  have hb02 := belowThen hb1 hb2
  clear hb1 hb2
  go_wp2_with fail
  refine (HNC.out _).mono ?_
  rintro e w3 ⟨rfl, hb3⟩
  have hb03 := belowThen hb02 hb3
  clear hb3 hb02
  obtain ⟨B, hB⟩ : ∃ B, B = w3.heap.size := ⟨_, rfl⟩
  go_wp2_with (first
    | (refine wp_store_gen (B := w3.heap.size) (w0 := w3) ((((Below.refl _ _).alloc (Nat.le_refl _) _).alloc (by simp) _).alloc (by simp; omega) _) (Nat.le_refl _) (((Mem.newAt w3 TI (List.replicate 32 (byteV 0)) rfl).alloc _).alloc _) (x.map byteV) TI (.tmp 7) (.tmp 15) rfl rfl rfl rfl SX.out HZX.out OX.out ?_
       intro W1 hm1 hk1b hz1 hk1
       have HX1 := Lib.hid hm1
       have HY1 := Lib.hid (show Mem W1 (w3.heap.size + 1) TI (List.replicate 32 (byteV 0)) from (hk1 _ (by omega)).trans ((Mem.newAt (w3.alloc _) TI (List.replicate 32 (byteV 0)) (by simp)).alloc _))
       have HZ1 := Lib.hid (show Mem W1 (w3.heap.size + 1 + 1) TI (List.replicate 32 (byteV 0)) from (hk1 _ (by omega)).trans (Mem.newAt _ TI (List.replicate 32 (byteV 0)) (by simp)))
       clear hm1 hz1 hk1)
    | (refine wp_store_gen (B := w3.heap.size) (w0 := w3) hk1b (Nat.le_succ _) HY1.out (y.map byteV) TI (.tmp 8) (.tmp 17) rfl rfl rfl rfl SY.out HZY.out OY.out ?_
       intro W2 hm2 hk2b hz2 hk2
       have HX2 := Lib.hid (show Mem W2 w3.heap.size TI (x.map byteV) from (hk2 _ (by omega)).trans HX1.out)
       have HY2 := Lib.hid hm2
       have HZ2 := Lib.hid (show Mem W2 (w3.heap.size + 1 + 1) TI (List.replicate 32 (byteV 0)) from (hk2 _ (by omega)).trans HZ1.out)
       clear hm2 hz2 hk2 HX1 HY1 HZ1 hk1b)
    | (refine wp_store_gen (B := w3.heap.size) (w0 := w3) hk2b (Nat.le_succ_of_le (Nat.le_succ _)) HZ2.out (z.map byteV) TI (.tmp 9) (.tmp 19) rfl rfl rfl rfl SZ.out HZZ.out OZ.out ?_
       intro W3 hm3 hk3b hz3 hk3
       have HT3 := Lib.hid (show Three W3 w3.heap.size x y z from ⟨(hk3 _ (by omega)).trans HX2.out, (hk3 _ (by simp)).trans HY2.out, hm3⟩)
       have hb0 := belowThen hb03 hk3b
       clear hm3 hz3 hk3 HX2 HY2 HZ2 hk2b hk3b)
    | fail)
  rw [← hB] at HT3
  rw [← hB]
  clear hB hb03
  have hb0d : Below w.heap.size w W3.drew := below_drewN hb0 1
  have HT3D := Lib.hid (show Three W3.drew B x y z from HT3.out)
  clear hb0 HT3
  refine wp_region_held_drew (S := fun w' => Three w' B x y z) (by kernel_rfl) HT3D.out (fun hHeld => ?_)
  refine wpAnyH_take (i := 0) (oi := ⟨some 20, .load TI (.tmp 7), TI, "law.go:42", #[], none⟩) (v := _) rfl (by kernel_rfl) (by kernel_rfl) (by kernel_rfl) (fun _ _ _ h => h) (yieldsIf_load_mid (by rfl) TI (.tmp 7) rfl B 0 rfl (x.map byteV) (.array 32 5) (fun w hS => hS.1.range 0 _ ⟨[], by simp⟩) Tryd.underlying39 rfl SX.out) hHeld ?_
  simp only [Act.put, List.setIfInBounds_toArray, List.set_cons_zero, List.set_cons_succ]
  refine wpAnyH_take (i := 2) (oi := ⟨some 22, .load TI (.tmp 8), TI, "law.go:42", #[], none⟩) (v := _) rfl (by kernel_rfl) (by kernel_rfl) (by kernel_rfl) (fun _ _ _ h => h) (yieldsIf_load_mid (by rfl) TI (.tmp 8) rfl (B + 1) 0 rfl (y.map byteV) (.array 32 5) (fun w hS => hS.2.1.range 0 _ ⟨[], by simp⟩) Tryd.underlying39 rfl SY.out) hHeld ?_
  simp only [Act.put, List.setIfInBounds_toArray, List.set_cons_zero, List.set_cons_succ]
  refine wpAnyH_take (i := 4) (oi := ⟨some 24, .load TI (.tmp 9), TI, "law.go:42", #[], none⟩) (v := _) rfl (by kernel_rfl) (by kernel_rfl) (by kernel_rfl) (fun _ _ _ h => h) (yieldsIf_load_mid (by rfl) TI (.tmp 9) rfl (B + 1 + 1) 0 rfl (z.map byteV) (.array 32 5) (fun w hS => hS.2.2.range 0 _ ⟨[], by simp⟩) Tryd.underlying39 rfl SZ.out) hHeld ?_
  simp only [Act.put, List.setIfInBounds_toArray, List.set_cons_zero, List.set_cons_succ]
  refine wpAnyH_ready (rs := [1]) (by kernel_rfl) (by simp) (AllReadyH.cons rfl (fun K hK => ?_) AllReadyH.nil)
  go_simp
  refine (bytes_any x _ LX.out).mono ?_
  rintro e w4 ⟨rfl, hb4⟩
  dsimp only
  refine hK.out _ _ (Three.below hHeld hb4) (fun hHeld1 => ?_)
  clear hK K
  have hb04 := belowThen hb0d hb4
  clear hb0d hb4 hHeld
  refine wpAnyH_ready (rs := [3]) (by kernel_rfl) (by simp) (AllReadyH.cons rfl (fun K hK => ?_) AllReadyH.nil)
  go_simp
  refine (bytes_any y _ LY.out).mono ?_
  rintro e w5 ⟨rfl, hb5⟩
  dsimp only
  refine hK.out _ _ (Three.below hHeld1 hb5) (fun hHeld2 => ?_)
  clear hK K
  have hb05 := belowThen hb04 hb5
  clear hb04 hb5 hHeld1
  refine wpAnyH_ready (rs := [5]) (by kernel_rfl) (by simp) (AllReadyH.cons rfl (fun K hK => ?_) AllReadyH.nil)
  go_simp
  refine (bytes_any z _ LZ.out).mono ?_
  rintro e w6 ⟨rfl, hb6⟩
  dsimp only
  refine hK.out _ _ (Three.below hHeld2 hb6) (fun hHeld3 => ?_)
  clear hK K
  have hb06 := belowThen hb05 hb6
  clear hb05 hb6 hHeld2
  refine wpAnyH_ready (rs := [6]) (by kernel_rfl) (by simp) (AllReadyH.cons rfl (fun K hK => ?_) AllReadyH.nil)
  go_simp
  refine hK.out _ _ hHeld3 (fun hh1 => ?_)
  clear hK K
  refine wpAnyH_ready (rs := [7]) (by kernel_rfl) (by simp) (AllReadyH.cons rfl (fun K hK => ?_) AllReadyH.nil)
  go_simp
  refine hK.out _ _ hHeld3 (fun hh2 => ?_)
  clear hK K
  refine wpAnyH_ready (rs := [8]) (by kernel_rfl) (by simp) (AllReadyH.cons rfl (fun K hK => ?_) AllReadyH.nil)
  go_simp
  refine hK.out _ _ hHeld3 (fun hh3 => ?_)
  clear hK K
  refine wpAnyH_done (by kernel_rfl) ?_ _
  rename_i K hK
  refine hK _ _ ?_
  have HT6 := Lib.hid hHeld3
  clear hh1 hh2 hh3 hHeld3
  go_wp2_with fail
  refine (awake2_any _ (HC.out.below hb06)).mono ?_
  rintro e w7 ⟨rfl, hb7⟩
  have hb07 := belowThen hb06 hb7
  have HT7 := Lib.hid (HT6.out.below hb7)
  clear hb7 hb06 HT6
  have l1 := ld_id_at HT7.out.1 LX.out
  have l2 := ld_id_at HT7.out.2.1 LY.out
  go_wp2_with fail
  clear l1 l2
  refine (xor_any x y _ LX.out LY.out).mono ?_
  rintro e w8 ⟨rfl, hb8⟩
  have hb08 := belowThen hb07 hb8
  have HT8 := Lib.hid (HT7.out.below hb8)
  clear hb8 hb07 HT7
  go_wp2_with fail
  refine (bytes_any (xorOf x y) _ (length_xorOf x y LX.out LY.out)).mono ?_
  rintro e w9 ⟨rfl, hb9⟩
  have hb09 := belowThen hb08 hb9
  have HT9 := Lib.hid (HT8.out.below hb9)
  clear hb9 hb08 HT8
  go_wp2_with fail
  refine (refXor_any x y _ LX.out LY.out).mono ?_
  rintro e w10 ⟨rfl, hb10⟩
  have hb010 := belowThen hb09 hb10
  have HT10 := Lib.hid (HT9.out.below hb10)
  clear hb10 hb09 HT9
  have l1 := ld_id_at HT10.out.1 LX.out
  have l2 := ld_id_at HT10.out.2.1 LY.out
  go_wp2_with fail
  clear l1 l2
  refine (shared_any x y _ LX.out LY.out).mono ?_
  rintro e w11 ⟨rfl, hb11⟩
  have hb011 := belowThen hb010 hb11
  have HT11 := Lib.hid (HT10.out.below hb11)
  clear hb11 hb010 HT10
  go_wp2_with fail
  refine (refShared_any x y _ LX.out LY.out).mono ?_
  rintro e w' ⟨rfl, rfl⟩
  have l1 := ld_id_at HT11.out.1 LX.out
  have l2 := ld_id_at HT11.out.2.1 LY.out
  have l3 := ld_id_at HT11.out.2.2 LZ.out
  go_wp2_with fail
  clear l1 l2 l3
  refine (closer_any x y z _ LX.out LY.out LZ.out).mono ?_
  rintro e w12 ⟨rfl, hb12⟩
  rw [HCLO.out]
  have hb012 := belowThen hb011 hb12
  have HT12 := Lib.hid (HT11.out.below hb12)
  clear hb12 hb011 HT11
  go_wp2_with fail
  refine (refCloser_any x y z _ LX.out LY.out LZ.out).mono ?_
  rintro e w' ⟨rfl, rfl⟩
  have l1 := ld_id_at HT12.out.1 LX.out
  have l2 := ld_id_at HT12.out.2.1 LY.out
  go_wp2_with fail
  clear l1 l2
  refine (compare_any x y _ LX.out LY.out).mono ?_
  rintro e w13 ⟨rfl, hb13⟩
  have hb013 := belowThen hb012 hb13
  clear hb13 hb012 HT12
  obtain ⟨n1, n2⟩ := HCB.out
  have hls := HLS.out
  have hgr := HGR.out
  obtain ⟨n, hn⟩ : ∃ n, n = cmpOf x y := ⟨_, rfl⟩
  rw [← hn] at n1 n2 hls hgr
  rw [← hn]
  clear hn HCB HLS HGR
  go_wp2_with fail
  go_ret
  exact ⟨rfl, hb013⟩
end Go.Proofs.YtmbihhfhpijgpaaDoor
