/-
  OidTakes: the walk.
-/
import Derived.Test.YtmbihhfhpijgpaaDoorOid10
namespace Go.Proofs.YtmbihhfhpijgpaaDoor
open Go.RowKit Crv

attribute [local go_sem ↓] ld_id
set_option maxHeartbeats 2000000 in
set_option maxRecDepth 100000 in
theorem oidTakes_walk (s0 : List UInt8) (w : World) (hc : Consts w) :
    Calls Tryd.prog 10 #[.string (str s0)] w fun e w' => e = .returned (.bool true) ∧ Below w.heap.size w w' := by
  have HC := Lib.hid hc
  clear hc
  go_enter Tryd.func10, Tryd.ntmps10
  go_wp2_with fail
  refine (cut_int s0 _ (by decide) _).mono ?_
  rintro e w' ⟨rfl, rfl⟩
  obtain ⟨s, hs⟩ : ∃ s, s = s0.take (40 : Int).toNat := ⟨_, rfl⟩
  rw [← hs]
  clear hs
  go_wp2_with fail
  refine (take_any s _).mono ?_
  rintro e w1 ⟨rfl, hb1⟩
  by_cases hl : s.length = 32
  · rw [if_pos hl]
    have SZ := Lib.hid (sz_id s hl)
    have ONE := Lib.hid (one_bytes s)
    have HZ := Lib.hid (show (List.replicate 32 (byteV 0)).length = (s.map byteV).length by rw [List.length_map, hl]; rfl)
    have HL := Lib.hid hl
    have hd : ((s.length : Int) != 32) = false := by simp; omega
    clear hl
    go_wp2_with (first
      | (refine wp_store_gen (B := w1.heap.size) (w0 := w1) (belowSelf w1 _) (Nat.le_refl _) (Mem.newAt w1 TI (List.replicate 32 (byteV 0)) rfl) (s.map byteV) TI (.tmp 3) (.tmp 10) rfl rfl rfl rfl SZ.out HZ.out ONE.out ?_
         intro W2 hm2 hb2 hz2 hk2
         have HM2 := Lib.hid hm2
         have hb02 := belowThen hb1 hb2
         clear hm2 hb2 hz2 hk2)
      | fail)
    refine (awake2_any _ (HC.out.below hb02)).mono ?_
    rintro e w3 ⟨rfl, hb3⟩
    have hb03 := belowThen hb02 hb3
    have l3 := ld_id_at (HM2.out.below hb3 HM2.out.lt) HL.out
    clear hb3 hb02 HM2
    go_wp2_with fail
    clear l3
    refine (bytes_any s _ HL.out).mono ?_
    rintro e w4 ⟨rfl, hb4⟩
    have hb04 := belowThen hb03 hb4
    go_wp2_with fail
    go_ret
    exact ⟨rfl, hb04⟩
  · rw [if_neg hl]
    have hz32 : (List.replicate 32 (0 : UInt8)).length = 32 := rfl
    obtain ⟨z, hz⟩ : ∃ z, z = List.replicate 32 (0 : UInt8) := ⟨_, rfl⟩
    have q1 : ∀ W, (binOp .eql TI (.agg (z.map byteV).toArray) (.agg #[Value.int IntKind.u8 0, Value.int IntKind.u8 0, Value.int IntKind.u8 0, Value.int IntKind.u8 0, Value.int IntKind.u8 0, Value.int IntKind.u8 0, Value.int IntKind.u8 0, Value.int IntKind.u8 0, Value.int IntKind.u8 0, Value.int IntKind.u8 0, Value.int IntKind.u8 0, Value.int IntKind.u8 0, Value.int IntKind.u8 0, Value.int IntKind.u8 0, Value.int IntKind.u8 0, Value.int IntKind.u8 0, Value.int IntKind.u8 0, Value.int IntKind.u8 0, Value.int IntKind.u8 0, Value.int IntKind.u8 0, Value.int IntKind.u8 0, Value.int IntKind.u8 0, Value.int IntKind.u8 0, Value.int IntKind.u8 0, Value.int IntKind.u8 0, Value.int IntKind.u8 0, Value.int IntKind.u8 0, Value.int IntKind.u8 0, Value.int IntKind.u8 0, Value.int IntKind.u8 0, Value.int IntKind.u8 0, Value.int IntKind.u8 0])).run Tryd.prog W = .ok (.bool true) W := fun W => by
      rw [hz]
      have h := run_eql_bytes (P := Tryd.prog) TI 5 32 Tryd.underlying39 Tryd.underlying5 (by kernel_rfl) (List.replicate 32 0) (List.replicate 32 0) rfl rfl W
      simp only [decide_true] at h
      exact h
    rw [← hz] at hz32
    rw [← hz]
    clear hz
    have SZ := Lib.hid (sz_id z hz32)
    have ONE := Lib.hid (one_bytes z)
    have HZ := Lib.hid (show (List.replicate 32 (byteV 0)).length = (z.map byteV).length by rw [List.length_map, hz32]; rfl)
    have HL := Lib.hid hz32
    have hd : ((s.length : Int) != 32) = true := by simp; omega
    clear hl hz32
    go_wp2_with (first
      | (refine wp_store_gen (B := w1.heap.size) (w0 := w1) (belowSelf w1 _) (Nat.le_refl _) (Mem.newAt w1 TI (List.replicate 32 (byteV 0)) rfl) (z.map byteV) TI (.tmp 3) (.tmp 10) rfl rfl rfl rfl SZ.out HZ.out ONE.out ?_
         intro W2 hm2 hb2 hz2 hk2
         have HM2 := Lib.hid hm2
         have hb02 := belowThen hb1 hb2
         clear hm2 hb2 hz2 hk2)
      | fail)
    refine (awake2_any _ (HC.out.below hb02)).mono ?_
    rintro e w3 ⟨rfl, hb3⟩
    have hb03 := belowThen hb02 hb3
    have l3 := ld_id_at (HM2.out.below hb3 HM2.out.lt) HL.out
    clear hb3 hb02 HM2
    go_wp2_with fail
    go_ret
    exact ⟨rfl, hb03⟩
end Go.Proofs.YtmbihhfhpijgpaaDoor
