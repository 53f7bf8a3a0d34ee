/-
  The law package of layer 2: awake.
-/
import Derived.Test.YtjbjkkgkefpggaaDoorOid9
namespace Go.Proofs.YtjbjkkgkefpggaaDoor
open Go.RowKit Crv

/-- A name that begins with this byte. -/
def one (b : UInt8) : List UInt8 := b :: List.replicate 31 0
theorem length_one (b : UInt8) : (one b).length = 32 := rfl
abbrev zero32' : List UInt8 := List.replicate 32 0
theorem build_one (b : UInt8) : (one b).map byteV = byteV b :: List.replicate 31 (byteV 0) := by simp [one]
theorem shared_7 : sharedOf (one 128) (one 129) = 7 := by decide +kernel
theorem closer_12 : decide (cmpOf (xorOf zero32' (one 1)) (xorOf zero32' (one 2)) < 0) = true := by decide +kernel
theorem closer_21 : decide (cmpOf (xorOf zero32' (one 2)) (xorOf zero32' (one 1)) < 0) = false := by decide +kernel

attribute [local go_sem ↓] ld_id
set_option maxHeartbeats 2000000 in
set_option maxRecDepth 100000 in
theorem awake2_any (w : World) (hc : Consts w) : Calls Tryd.prog 22 #[] w fun e w' => e = .returned (.bool true) ∧ Below w.heap.size w w' := by
  have HC := Lib.hid hc
  clear hc
  have S128 := Lib.hid (sz_id (one 128) rfl)
  have S129 := Lib.hid (sz_id (one 129) rfl)
  have O128 := Lib.hid (one_bytes (one 128))
  have O129 := Lib.hid (one_bytes (one 129))
  have HZ := Lib.hid (show ∀ b, (List.replicate 32 (byteV 0)).length = ((one b).map byteV).length from fun b => rfl)
  go_enter Tryd.func22, Tryd.ntmps22
  go_wp2_with (first
    | (refine wp_store_gen (B := w.heap.size) (w0 := w) (((Below.refl _ _).alloc (Nat.le_refl _) _).alloc (by simp) _) (Nat.le_refl _) ((Mem.newAt w TI (List.replicate 32 (byteV 0)) rfl).alloc _) ((one 128).map byteV) TI (.tmp 1) (.tmp 4) rfl rfl rfl rfl S128.out (HZ.out 128) O128.out ?_
       intro W1 hm1 hb1 hz1 hk1
       have HM1 := Lib.hid hm1
       have HN1 := Lib.hid (show Mem W1 (w.heap.size + 1) TI (List.replicate 32 (byteV 0)) from (hk1 _ (by omega)).trans (Mem.newAt (w.alloc _) TI (List.replicate 32 (byteV 0)) (by simp)))
       clear hm1 hz1 hk1)
    | (refine wp_store_gen (B := w.heap.size) (w0 := w) hb1 (Nat.le_succ _) HN1.out ((one 129).map byteV) TI (.tmp 2) (.tmp 5) rfl rfl rfl rfl S129.out (HZ.out 129) O129.out ?_
       intro W2 hm2 hb2 hz2 hk2
       have HA2 := Lib.hid (show Mem W2 w.heap.size TI ((one 128).map byteV) from (hk2 _ (by omega)).trans HM1.out)
       have HB2 := Lib.hid hm2
       clear hm2 hz2 hk2 HM1 HN1 hb1)
    | fail)
  have HC2 := Lib.hid (HC.out.below (belowThen hb2 (belowSelf W2 (.cells #[tx [97], tx [98]] 9))))
  refine (ofOid_any 1 (by omega) _ [[97], [98]] _ HC2.out (StrSlice.new [[97], [98]] 2) (by simp) (by simp)).mono ?_
  rintro e w3 ⟨rfl, hb3⟩
  rw [show ([[97], [98]] : List (List UInt8)).flatten = [97, 98] from rfl]
  obtain ⟨d, hd⟩ : ∃ d, d = sha ([99, 114, 118] ++ headOf 1 ([97, 98] : List UInt8).length ++ [97, 98]) := ⟨_, rfl⟩
  have hdl : d.length = 32 := by rw [hd]; rfl
  have HREF := Lib.hid (fun W => refOfOid_any [97, 98] W (by simp))
  rw [← hd] at HREF
  rw [← hd]
  clear hd HC2
  have SD := Lib.hid (sz_id d hdl)
  have OD := Lib.hid (one_bytes d)
  have HZD := Lib.hid (show (List.replicate 32 (byteV 0)).length = (d.map byteV).length by rw [List.length_map, hdl]; rfl)
  have HDL := Lib.hid hdl
  have hb03 := belowThen (belowThen hb2 (belowSelf W2 (.cells #[tx [97], tx [98]] 9))) hb3
  have HA3 := Lib.hid (show Mem w3 w.heap.size TI ((one 128).map byteV) from (HA2.out.alloc _).below hb3 (HA2.out.alloc _).lt)
  have HB3 := Lib.hid (show Mem w3 (w.heap.size + 1) TI ((one 129).map byteV) from (HB2.out.alloc _).below hb3 (HB2.out.alloc _).lt)
  clear hdl hb3 hb2 HA2 HB2
  go_wp2_with (first
    | (refine wp_store_gen (B := w3.heap.size) (w0 := w3) (belowSelf w3 _) (Nat.le_refl _) (Mem.newAt w3 TI (List.replicate 32 (byteV 0)) rfl) (d.map byteV) TI (.tmp 3) (.tmp 7) rfl rfl rfl rfl SD.out HZD.out OD.out ?_
       intro W4 hm4 hb4 hz4 hk4
       have HD4 := Lib.hid hm4
       have HA4 := Lib.hid (HA3.out.below hb4 HA3.out.lt)
       have HB4 := Lib.hid (HB3.out.below hb4 HB3.out.lt)
       have hb04 := belowThen hb03 hb4
       clear hm4 hz4 hk4 hb4 HA3 HB3)
    | (refine wp_load_mem HA4.out TI (.tmp 1) (.array 32 5) rfl rfl rfl Tryd.underlying39 rfl S128.out ?_)
    | (refine wp_load_mem HB4.out TI (.tmp 2) (.array 32 5) rfl rfl rfl Tryd.underlying39 rfl S129.out ?_)
    | fail)
  refine (shared_any (one 128) (one 129) _ rfl rfl).mono ?_
  rintro e w5 ⟨rfl, hb5⟩
  rw [shared_7]
  have HD5 := Lib.hid (HD4.out.below hb5 HD4.out.lt)
  have HA5 := Lib.hid (HA4.out.below hb5 HA4.out.lt)
  have hb05 := belowThen hb04 hb5
  clear HD4 HA4 HB4 hb5 hb04 hb03
  go_wp2_with fail
  refine (closer_any zero32' (one 1) (one 2) _ rfl rfl rfl).mono ?_
  rintro e w6 ⟨rfl, hb6⟩
  rw [closer_12]
  have HD6 := Lib.hid (HD5.out.below hb6 HD5.out.lt)
  have HA6 := Lib.hid (HA5.out.below hb6 HA5.out.lt)
  have hb06 := belowThen hb05 hb6
  clear HD5 HA5 hb6 hb05
  go_wp2_with fail
  refine (closer_any zero32' (one 2) (one 1) _ rfl rfl rfl).mono ?_
  rintro e w7 ⟨rfl, hb7⟩
  rw [closer_21]
  have HD7 := Lib.hid (HD6.out.below hb7 HD6.out.lt)
  have HA7 := Lib.hid (HA6.out.below hb7 HA6.out.lt)
  have hb07 := belowThen hb06 hb7
  clear HD6 HA6 hb7 hb06
  have l7 := ld_id_at HA7.out (length_one 128)
  go_wp2_with fail
  refine (text_any (one 128) _ rfl).mono ?_
  rintro e w8 ⟨rfl, hb8⟩
  have HD8 := Lib.hid (HD7.out.below hb8 HD7.out.lt)
  have hb08 := belowThen hb07 hb8
  have htl := length_textOf (one 128)
  obtain ⟨tt, htt⟩ : ∃ tt, tt = textOf (one 128) := ⟨_, rfl⟩
  rw [← htt] at htl
  rw [← htt]
  have htl' : (tt.length : Int) = 52 := by omega
  clear htt HD7 HA7 hb8 hb07 l7 htl
  have l8 := ld_id_at HD8.out HDL.out
  go_wp2_with fail
  clear l8
  refine (bytes_any d _ HDL.out).mono ?_
  rintro e w9 ⟨rfl, hb9⟩
  have hb09 := belowThen hb08 hb9
  clear hb9 hb08 HD8
  go_wp2_with fail
  refine (HREF.out _).mono ?_
  rintro e w10 ⟨rfl, hb10⟩
  have hb010 := belowThen hb09 hb10
  clear hb10 hb09
  go_wp2_with fail
  go_ret
  exact ⟨rfl, hb010⟩
end Go.Proofs.YtjbjkkgkefpggaaDoor
