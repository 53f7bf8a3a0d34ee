/-
  OidSorts: the closure.
-/
import Derived.Test.YtjbjkkgkefpggaaDoorOid19
namespace Go.Proofs.YtjbjkkgkefpggaaDoor
open Go.RowKit Crv

attribute [local go_sem ↓] ld_id
set_option maxHeartbeats 2000000 in
set_option maxRecDepth 100000 in
theorem near_any (g p q : List UInt8) (gb : Nat) (w : World) (hg : g.length = 32) (hp : p.length = 32) (hq : q.length = 32) (hm : Mem w gb TI (g.map byteV)) :
    Calls Tryd.prog 34 #[.agg (p.map byteV).toArray, .agg (q.map byteV).toArray, .pointer (some ⟨gb, 0, none⟩)] w fun e w' => e = .returned (.agg ((nearOf g p q).map byteV).toArray) ∧ Below w.heap.size w w' := by
  have lp0 : Mem (((w.alloc (.cells (p.map byteV).toArray TI)).alloc (.cells (q.map byteV).toArray TI)).alloc (.cells zs32 TI)) w.heap.size TI (p.map byteV) := ((Mem.newAt w TI (p.map byteV) rfl).alloc _).alloc _
  have lq0 : Mem (((w.alloc (.cells (p.map byteV).toArray TI)).alloc (.cells (q.map byteV).toArray TI)).alloc (.cells zs32 TI)) (w.heap.size + 1) TI (q.map byteV) := (Mem.newAt (w.alloc _) TI (q.map byteV) (by simp)).alloc _
  have lz0 : Mem (((w.alloc (.cells (p.map byteV).toArray TI)).alloc (.cells (q.map byteV).toArray TI)).alloc (.cells zs32 TI)) (w.heap.size + 1 + 1) TI (List.replicate 32 (byteV 0)) := Mem.newAt _ TI (List.replicate 32 (byteV 0)) (by simp)
  have l1 := ld_id_at (((hm.alloc (.cells (p.map byteV).toArray TI)).alloc (.cells (q.map byteV).toArray TI)).alloc (.cells zs32 TI)) hg
  have l2 := ld_id_at lp0 hp
  have l3 := ld_id_at lq0 hq
  have HP0 := Lib.hid lp0
  have HQ0 := Lib.hid lq0
  have HZ0 := Lib.hid lz0
  have HB0 := Lib.hid (show Below w.heap.size w (((w.alloc (.cells (p.map byteV).toArray TI)).alloc (.cells (q.map byteV).toArray TI)).alloc (.cells zs32 TI)) from (((Below.refl _ _).alloc (Nat.le_refl _) _).alloc (by simp) _).alloc (by simp; omega) _)
  have HP := Lib.hid hp
  have HQ := Lib.hid hq
  have SP := Lib.hid (sz_id p hp)
  have SQ := Lib.hid (sz_id q hq)
  have OP := Lib.hid (one_bytes p)
  have OQ := Lib.hid (one_bytes q)
  have HZP := Lib.hid (show (List.replicate 32 (byteV 0)).length = (p.map byteV).length by rw [List.length_map, hp]; rfl)
  have HZQ := Lib.hid (show (List.replicate 32 (byteV 0)).length = (q.map byteV).length by rw [List.length_map, hq]; rfl)
  have HCL := Lib.hid (fun W => closer_any g q p W hg hq hp)
  have HN := Lib.hid (show nearOf g p q = if decide (cmpOf (xorOf g q) (xorOf g p) < 0) = true then q else p by unfold nearOf; simp)
  obtain ⟨cl, hcl⟩ : ∃ c, c = decide (cmpOf (xorOf g q) (xorOf g p) < 0) := ⟨_, rfl⟩
  rw [← hcl] at HN
  simp only [← hcl] at HCL
  clear hcl hp hq hm hg lp0 lq0 lz0
  go_enter Tryd.func34, Tryd.ntmps34
  go_wp2_with fail
  refine (HCL.out _).mono ?_
  rintro e w1 ⟨rfl, hb1⟩
  have HP1 := Lib.hid (HP0.out.below hb1 HP0.out.lt)
  have HQ1 := Lib.hid (HQ0.out.below hb1 HQ0.out.lt)
  have HZ1 := Lib.hid (HZ0.out.below hb1 HZ0.out.lt)
  have HB1 := Lib.hid (belowThen HB0.out hb1)
  clear l1 l2 l3 hb1 HP0 HQ0 HZ0 HB0
  have l2 := ld_id_at HP1.out HP.out
  have l3 := ld_id_at HQ1.out HQ.out
  cases cl with
  | true =>
    go_wp2_with (first
      | (refine wp_store_gen (B := w.heap.size) (w0 := w) HB1.out (by omega) HZ1.out (q.map byteV) TI (.tmp 5) (.tmp 10) rfl rfl rfl rfl SQ.out HZQ.out OQ.out ?_
         intro W2 hm2 hb2 hz2 hk2)
      | fail)
    exact bodyPost_ret (results_mem hm2 rfl _ (.array 32 5) rfl Tryd.underlying39 rfl SQ.out) rfl ⟨by rw [HN.out]; rfl, hb2⟩
  | false =>
    go_wp2_with (first
      | (refine wp_store_gen (B := w.heap.size) (w0 := w) HB1.out (by omega) HZ1.out (p.map byteV) TI (.tmp 5) (.tmp 11) rfl rfl rfl rfl SP.out HZP.out OP.out ?_
         intro W2 hm2 hb2 hz2 hk2)
      | fail)
    exact bodyPost_ret (results_mem hm2 rfl _ (.array 32 5) rfl Tryd.underlying39 rfl SP.out) rfl ⟨by rw [HN.out]; rfl, hb2⟩
end Go.Proofs.YtjbjkkgkefpggaaDoor
