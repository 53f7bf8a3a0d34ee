/-
  Package oid: Xor.
-/
import Derived.Test.YtaicjdjfhbmfeaaDoorOid1
namespace Go.Proofs.YtaicjdjfhbmfeaaDoor
open Go.RowKit Crv

def xorOf (x y : List UInt8) : List UInt8 := List.zipWith (· ^^^ ·) x y
def xorTo (x y : List UInt8) (k : Nat) : List UInt8 := (xorOf x y).take k ++ x.drop k
theorem length_xorOf (x y : List UInt8) (hx : x.length = 32) (hy : y.length = 32) : (xorOf x y).length = 32 := by simp [xorOf, hx, hy]
theorem xorTo_zero (x y : List UInt8) : xorTo x y 0 = x := by simp [xorTo]
theorem xorTo_all (x y : List UInt8) (hx : x.length = 32) (hy : y.length = 32) : xorTo x y 32 = xorOf x y := by
  unfold xorTo
  rw [List.take_of_length_le (by rw [length_xorOf x y hx hy]; exact Nat.le_refl _), List.drop_of_length_le (by omega), List.append_nil]
theorem xorTo_get (x y : List UInt8) (hx : x.length = 32) (hy : y.length = 32) (k : Nat) (h : k < 32) : (xorTo x y k)[k]? = some (x.getD k 0) := by
  unfold xorTo
  rw [List.getElem?_append_right (by rw [List.length_take, length_xorOf x y hx hy]; omega), List.length_take, length_xorOf x y hx hy, List.getElem?_drop, Nat.min_eq_left (by omega), Nat.sub_self, Nat.add_zero, List.getElem?_eq_getElem (by omega), List.getD_eq_getElem?_getD, List.getElem?_eq_getElem (by omega)]
  rfl
theorem xorTo_set (x y : List UInt8) (hx : x.length = 32) (hy : y.length = 32) (k : Nat) (h : k < 32) : ((xorTo x y k).map byteV).set k (byteV (x.getD k 0 ^^^ y.getD k 0)) = (xorTo x y (k + 1)).map byteV := by
  rw [← List.map_set]
  congr 1
  unfold xorTo
  have hl := length_xorOf x y hx hy
  rw [List.set_append_right _ _ (by rw [List.length_take, hl]; omega), List.length_take, hl, Nat.min_eq_left (by omega), Nat.sub_self, List.drop_eq_getElem_cons (by omega), List.set_cons_zero, List.take_add_one, List.getElem?_eq_getElem (by omega)]
  simp only [xorOf, List.getElem_zipWith, List.append_assoc, Option.toList_some, List.singleton_append, List.getD_eq_getElem?_getD]
  rw [List.getElem?_eq_getElem (by omega), List.getElem?_eq_getElem (by omega)]
  rfl

theorem xor_u8 (a b : UInt8) : bits .xor .u8 (a.toNat : Int) (b.toNat : Int) = ((a ^^^ b).toNat : Int) := by
  have ha := a.toNat_lt
  have hb := b.toNat_lt
  rw [UInt8.toNat_xor]
  exact u8_xor_nat _ _ ha hb

set_option maxHeartbeats 1000000 in
set_option maxRecDepth 100000 in
theorem xor_any (x y : List UInt8) (w : World) (hx : x.length = 32) (hy : y.length = 32) :
    Calls Tryd.prog 48 #[.agg (x.map byteV).toArray, .agg (y.map byteV).toArray] w fun e w' => e = .returned (.agg ((xorOf x y).map byteV).toArray) ∧ Below w.heap.size w w' := by
  have HX := Lib.hid hx
  have HY := Lib.hid hy
  clear hx hy
  go_enter Tryd.func48, Tryd.ntmps48
  go_wp2_with fail
  go_loopw [6] (fun i wr => ∃ k : Nat, k ≤ 32 ∧ i = .int .i64 k ∧ Hid (Mem wr w.heap.size 36 ((xorTo x y k).map byteV) ∧ Mem wr (w.heap.size + 1) 36 (y.map byteV) ∧ Mem wr (w.heap.size + 2) 36 (List.replicate 32 (byteV 0))) ∧ Below w.heap.size w wr) (fun i _ => 32 - (intOf i).toNat)
  case atStart =>
    refine ⟨0, by omega, rfl, Lib.hid ⟨?_, ?_, ?_⟩, (((Below.refl _ _).alloc (Nat.le_refl _) _).alloc (by simp) _).alloc (by simp; omega) _⟩
    · rw [xorTo_zero]; exact ((Mem.newAt w 36 (x.map byteV) rfl).alloc _).alloc _
    · exact (Mem.newAt (w.alloc _) 36 (y.map byteV) (by simp)).alloc _
    · exact Mem.newAt _ 36 (List.replicate 32 (byteV 0)) (by simp)
  case round =>
    obtain ⟨k, hk, rfl, HM, hb⟩ := hrel
    by_cases hlt : k < 32
    · obtain ⟨a, ha⟩ : ∃ a, a = x.getD k 0 := ⟨_, rfl⟩
      obtain ⟨b, hb'⟩ : ∃ b, b = y.getD k 0 := ⟨_, rfl⟩
      have c0 : wr.cell? ⟨w.heap.size, k, none⟩ = some (.int .u8 (a.toNat : Int)) := by
        rw [HM.out.1.cell, List.getElem?_map, xorTo_get x y HX.out HY.out k hlt, ← ha]; rfl
      have c1 : wr.cell? ⟨w.heap.size + 1, k, none⟩ = some (.int .u8 (b.toNat : Int)) := by
        rw [HM.out.2.1.cell, List.getElem?_map, List.getElem?_eq_getElem (by rw [HY.out]; exact hlt), hb', List.getD_eq_getElem?_getD, List.getElem?_eq_getElem (by rw [HY.out]; exact hlt)]; rfl
      have f0 := HM.out.1.frozen k
      have hkl : (k : Int) < 32 := by omega
      have hd : decide ((k : Int) < 32) = true := by simp; omega
      have HS := Lib.hid (show ((xorTo x y k).map byteV).set k (byteV (a ^^^ b)) = (xorTo x y (k + 1)).map byteV by rw [ha, hb']; exact xorTo_set x y HX.out HY.out k hlt)
      clear ha hb'
      go_wp2_with fail
      go_region
      rename_i K hK
      refine hK _ _ ?_
      go_wp2
      go_roundw
      case rel =>
        rw [xor_u8]
        exact ⟨k + 1, by omega, by go_num, Lib.hid ⟨HS.out ▸ (HM.out.1.set k _).drew, ((HM.out.2.1.other (by simp) _)).drew, ((HM.out.2.2.other (by simp) _)).drew⟩, below_drewN (hb.setCell (Nat.le_refl _) _) 1⟩
      case measure => simp [intOf]; omega
    · have ek : k = 32 := by omega
      subst ek
      obtain ⟨hm0, hm1, hm2⟩ := HM.out
      rw [xorTo_all x y HX.out HY.out] at hm0
      have hxl := length_xorOf x y HX.out HY.out
      obtain ⟨z, hz⟩ : ∃ z, z = xorOf x y := ⟨_, rfl⟩
      rw [← hz] at hm0 hxl
      have HZE := Lib.hid hz
      have SZ := Lib.hid (sz_id z hxl)
      have HZ := Lib.hid (show (List.replicate 32 (byteV 0)).length = (z.map byteV).length by rw [List.length_map, hxl]; rfl)
      have ONE := Lib.hid (one_bytes z)
      have H0 := Lib.hid hm0
      have H2 := Lib.hid (show Mem wr (w.heap.size + 1 + 1) 36 (List.replicate 32 (byteV 0)) from hm2)
      clear hz hxl hm0 hm1 hm2 HM
      go_wp2_with (first
        | (refine wp_load_mem H0.out 36 (.tmp 2) (.array 32 5) rfl rfl rfl Tryd.underlying36 rfl SZ.out ?_)
        | (refine wp_store_mem H2.out (z.map byteV) 36 (.tmp 4) (.tmp 18) rfl rfl rfl rfl SZ.out HZ.out ONE.out ?_)
        | fail)
      exact bodyPost_ret (v := .agg (z.map byteV).toArray) (results_mem (H2.out.setRow _) rfl _ (.array 32 5) rfl Tryd.underlying36 rfl SZ.out) rfl ⟨by rw [HZE.out], below_row hb (by omega) _⟩
end Go.Proofs.YtaicjdjfhbmfeaaDoor
