/-
  OidTexts: the walk.
-/
import Derived.Test.YtmbihhfhpijgpaaDoorOid10
import Derived.Test.YtmbihhfhpijgpaaDoorOid17
namespace Go.Proofs.YtmbihhfhpijgpaaDoor
open Go.RowKit Crv

attribute [local go_sem ↓] ld_id
set_option maxHeartbeats 4000000 in
set_option maxRecDepth 100000 in
theorem oidTexts_walk (a s : List UInt8) (w : World) (hc : Consts w) :
    Calls Tryd.prog 9 #[.string (str a), .string (str s)] w fun e w' => e = .returned (.bool true) ∧ Below w.heap.size w w' := by
  have HC := Lib.hid hc
  clear hc
  have HNA := Lib.hid (name_any a)
  obtain ⟨x, hx⟩ : ∃ x, x = nameOf a := ⟨_, rfl⟩
  have lx : x.length = 32 := by rw [hx]; exact length_nameOf _
  rw [← hx] at HNA
  clear hx
  have SX := Lib.hid (sz_id x lx)
  have OX := Lib.hid (one_bytes x)
  have HZX := Lib.hid (show (List.replicate 32 (byteV 0)).length = (x.map byteV).length by rw [List.length_map, lx]; rfl)
  have LX := Lib.hid lx
  have HTX := Lib.hid (fun W => text_any x W lx)
  have HRF := Lib.hid (fun W => refText_any x W lx)
  have HPT := Lib.hid (fun W => parse_any (textOf x) W)
  rw [saidOf_yes _ (fits_text x lx), parse_text x lx] at HPT
  have q0 : ∀ W, (binOp .neq TI (.agg (x.map byteV).toArray) (.agg (x.map byteV).toArray)).run Tryd.prog W = .ok (.bool false) W := fun W => by
    have h := run_neq_bytes (P := Tryd.prog) TI 5 32 Tryd.underlying39 Tryd.underlying5 (by kernel_rfl) x x lx lx W
    simp only [decide_true, Bool.not_true] at h
    exact h
  obtain ⟨t, ht⟩ : ∃ t, t = textOf x := ⟨_, rfl⟩
  rw [← ht] at HTX HRF HPT
  clear ht lx
  go_enter Tryd.func9, Tryd.ntmps9
  go_wp2_with fail
  refine (HNA.out _).mono ?_
  rintro e w1 ⟨rfl, hb1⟩
  go_wp2_with (first
    | (refine wp_store_gen (B := w1.heap.size) (w0 := w1) (belowSelf w1 _) (Nat.le_refl _) (Mem.newAt w1 TI (List.replicate 32 (byteV 0)) rfl) (x.map byteV) TI (.tmp 5) (.tmp 12) rfl rfl rfl rfl SX.out HZX.out OX.out ?_
       intro W2 hm2 hb2 hz2 hk2
       have HM2 := Lib.hid hm2
       have hb02 := belowThen hb1 hb2
       have l2 := ld_id_at hm2 LX.out
       clear hm2 hb2 hz2 hk2)
    | fail)
  clear l2
  refine (HTX.out _).mono ?_
  rintro e w3 ⟨rfl, hb3⟩
  have HM3 := Lib.hid (HM2.out.below hb3 HM2.out.lt)
  have hb03 := belowThen hb02 hb3
  clear hb3 hb02 HM2
  go_wp2_with fail
  refine (HPT.out _).mono ?_
  rintro e w4 ⟨rfl, hb4⟩
  have HM4 := Lib.hid (HM3.out.below hb4 HM3.out.lt)
  have hb04 := belowThen hb03 hb4
  clear hb4 hb03 HM3
  go_wp2_with (first
    | (refine wp_store_gen (B := w4.heap.size) (w0 := w4) (belowSelf w4 _) (Nat.le_refl _) (Mem.newAt w4 TI (List.replicate 32 (byteV 0)) rfl) (x.map byteV) TI (.tmp 7) (.tmp 18) rfl rfl rfl rfl SX.out HZX.out OX.out ?_
       intro W5 hm5 hb5 hz5 hk5
       have HY5 := Lib.hid hm5
       have HM5 := Lib.hid (HM4.out.below hb5 HM4.out.lt)
       have hb05 := belowThen hb04 hb5
       clear hm5 hb5 hz5 hk5)
    | fail)
  refine (awake2_any _ (HC.out.below hb05)).mono ?_
  rintro e w6 ⟨rfl, hb6⟩
  have HY6 := Lib.hid (HY5.out.below hb6 HY5.out.lt)
  have HM6 := Lib.hid (HM5.out.below hb6 HM5.out.lt)
  have hb06 := belowThen hb05 hb6
  clear hb6 hb05 HM5 HY5 hb04 HM4
  have l6 := ld_id_at HM6.out LX.out
  go_wp2_with fail
  clear l6
  refine (bytes_any x _ LX.out).mono ?_
  rintro e w7 ⟨rfl, hb7⟩
  have l7 := ld_id_at (HM6.out.below hb7 HM6.out.lt) LX.out
  have k7 := ld_id_at (HY6.out.below hb7 HY6.out.lt) LX.out
  have hb07 := belowThen hb06 hb7
  clear hb7 hb06 HM6 HY6
  go_wp2_with fail
  refine (HRF.out _).mono ?_
  rintro e w8 ⟨rfl, rfl⟩
  go_wp2_with fail
  clear l7 k7 q0
  by_cases hf : Fits s
  · have HPS := Lib.hid (parse_any s)
    rw [saidOf_yes s hf] at HPS
    have HTZ := Lib.hid (fun W => text_any (parseOf s) W (length_parseOf s))
    rw [text_parse s hf] at HTZ
    have lz := length_parseOf s
    obtain ⟨z, hz⟩ : ∃ z, z = parseOf s := ⟨_, rfl⟩
    rw [← hz] at HPS HTZ lz
    clear hz hf
    have SZ := Lib.hid (sz_id z lz)
    have OZ := Lib.hid (one_bytes z)
    have HZZ := Lib.hid (show (List.replicate 32 (byteV 0)).length = (z.map byteV).length by rw [List.length_map, lz]; rfl)
    have LZ := Lib.hid lz
    clear lz
    refine (HPS.out _).mono ?_
    rintro e w9 ⟨rfl, hb9⟩
    have hb09 := belowThen hb07 hb9
    clear hb9
    go_wp2_with (first
      | (refine wp_store_gen (B := w9.heap.size) (w0 := w9) (belowSelf w9 _) (Nat.le_refl _) (Mem.newAt w9 TI (List.replicate 32 (byteV 0)) rfl) (z.map byteV) TI (.tmp 9) (.tmp 41) rfl rfl rfl rfl SZ.out HZZ.out OZ.out ?_
         intro WA hmA hbA hzA hkA
         have lA := ld_id_at hmA LZ.out
         have hb0A := belowThen hb09 hbA
         clear hmA hbA hzA hkA)
      | fail)
    clear lA
    refine (HTZ.out _).mono ?_
    rintro e wB ⟨rfl, hbB⟩
    have hb0B := belowThen hb0A hbB
    clear hbB
    go_wp2_with fail
    go_ret
    exact ⟨rfl, hb0B⟩
  · have HPS := Lib.hid (parse_any s)
    rw [saidOf_no s hf] at HPS
    have z32 : (List.replicate 32 (0 : UInt8)).map byteV = List.replicate 32 (byteV 0) := by simp
    rw [← z32] at HPS
    have lz : (List.replicate 32 (0 : UInt8)).length = 32 := rfl
    obtain ⟨z, hz⟩ : ∃ z, z = List.replicate 32 (0 : UInt8) := ⟨_, rfl⟩
    have q1 : ∀ W, (binOp .eql TI (.agg (z.map byteV).toArray) (.agg #[Value.int IntKind.u8 0, Value.int IntKind.u8 0, Value.int IntKind.u8 0, Value.int IntKind.u8 0, Value.int IntKind.u8 0, Value.int IntKind.u8 0, Value.int IntKind.u8 0, Value.int IntKind.u8 0, Value.int IntKind.u8 0, Value.int IntKind.u8 0, Value.int IntKind.u8 0, Value.int IntKind.u8 0, Value.int IntKind.u8 0, Value.int IntKind.u8 0, Value.int IntKind.u8 0, Value.int IntKind.u8 0, Value.int IntKind.u8 0, Value.int IntKind.u8 0, Value.int IntKind.u8 0, Value.int IntKind.u8 0, Value.int IntKind.u8 0, Value.int IntKind.u8 0, Value.int IntKind.u8 0, Value.int IntKind.u8 0, Value.int IntKind.u8 0, Value.int IntKind.u8 0, Value.int IntKind.u8 0, Value.int IntKind.u8 0, Value.int IntKind.u8 0, Value.int IntKind.u8 0, Value.int IntKind.u8 0, Value.int IntKind.u8 0])).run Tryd.prog W = .ok (.bool true) W := fun W => by
      rw [hz]
      have h := run_eql_bytes (P := Tryd.prog) TI 5 32 Tryd.underlying39 Tryd.underlying5 (by kernel_rfl) (List.replicate 32 0) (List.replicate 32 0) rfl rfl W
      simp only [decide_true] at h
      exact h
    rw [← hz] at HPS lz
    clear hz hf z32
    have SZ := Lib.hid (sz_id z lz)
    have OZ := Lib.hid (one_bytes z)
    have HZZ := Lib.hid (show (List.replicate 32 (byteV 0)).length = (z.map byteV).length by rw [List.length_map, lz]; rfl)
    have LZ := Lib.hid lz
    clear lz
    refine (HPS.out _).mono ?_
    rintro e w9 ⟨rfl, hb9⟩
    have hb09 := belowThen hb07 hb9
    clear hb9
    go_wp2_with (first
      | (refine wp_store_gen (B := w9.heap.size) (w0 := w9) (belowSelf w9 _) (Nat.le_refl _) (Mem.newAt w9 TI (List.replicate 32 (byteV 0)) rfl) (z.map byteV) TI (.tmp 9) (.tmp 41) rfl rfl rfl rfl SZ.out HZZ.out OZ.out ?_
         intro WA hmA hbA hzA hkA
         have lA := ld_id_at hmA LZ.out
         have hb0A := belowThen hb09 hbA
         clear hmA hbA hzA hkA)
      | fail)
    go_ret
    exact ⟨rfl, hb0A⟩
end Go.Proofs.YtmbihhfhpijgpaaDoor
