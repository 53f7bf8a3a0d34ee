/-
  Package oid: Bytes, Take; the laws' Name.
-/
import Derived.Test.YtjbjkkgkefpggaaDoorLawLong
import Derived.Test.YtjbjkkgkefpggaaDoorNam
import Derived.Laws.ResultCell
namespace Go.Proofs.YtjbjkkgkefpggaaDoor
open Go.RowKit Crv

set_option maxRecDepth 100000 in
theorem bytes_any (x : List UInt8) (w : World) (hx : x.length = 32) :
    Calls Tryd.prog 21 #[.agg (x.map byteV).toArray] w fun e w' => e = .returned (.string (str x)) ∧ Below w.heap.size w w' := by
  have hcv := bytes_string (P := Tryd.prog) (src := 26) (dst := 9) (Mem.newAt w 39 (x.map byteV) rfl) Tryd.underlying26 Tryd.underlying5 Tryd.underlying9 hx
  have HX := Lib.hid hx
  clear hx
  go_enter Tryd.func21, Tryd.ntmps21
  go_wp2
  go_ret
  exact ⟨rfl, (Below.refl _ _).alloc (Nat.le_refl _) _⟩

set_option maxRecDepth 100000 in
theorem take_any (l : List UInt8) (w : World) :
    Calls Tryd.prog 33 #[.string (str l)] w fun e w' => e = .returned (if l.length = 32 then .tuple #[.agg (l.map byteV).toArray, .int .i64 0] else .tuple #[.agg ((List.replicate 32 (0 : UInt8)).map byteV).toArray, .int .i64 2]) ∧ Below w.heap.size w w' := by
  by_cases hl : l.length = 32
  · rw [if_pos hl]
    have NC := Lib.hid (name_cells l)
    rw [nameOf_of l hl] at NC
    have SZ := Lib.hid (sz_id l hl)
    have HZ := Lib.hid (show (List.replicate 32 (byteV 0)).length = (l.map byteV).length by rw [List.length_map, hl]; rfl)
    have ONE := Lib.hid (one_bytes l)
    have hd : ((l.length : Int) != 32) = false := by simp; omega
    clear hl
    go_enter Tryd.func33, Tryd.ntmps33
    go_wp2_with (first
      | (refine wp_copy_gen (B := w.heap.size) (w0 := w) (((Below.refl _ _).alloc (Nat.le_refl _) _).alloc (by simp) _) (by simp) (Mem.newAt (w.alloc (.cells (List.replicate 32 (byteV 0)).toArray 39)) 39 (List.replicate 32 (byteV 0)) (by simp)) (l.map byteV) (.tmp 9) (.tmp 10) 26 9 5 32 32 l rfl rfl rfl rfl Tryd.underlying26 (by kernel_rfl) (by simp) NC.out ?_
         intro W1 hm1 hb1 hk1
         have HM1 := Lib.hid hm1
         have HM0 := Lib.hid (show Mem W1 w.heap.size 39 (List.replicate 32 (byteV 0)) from (hk1 _ (by omega)).trans ((Mem.newAt w 39 (List.replicate 32 (byteV 0)) rfl).alloc _))
         clear hm1 hk1)
      | (refine wp_load_mem HM1.out 39 (.tmp 4) (.array 32 5) rfl rfl rfl Tryd.underlying39 rfl SZ.out ?_)
      | (refine wp_store_mem HM0.out (l.map byteV) 39 (.tmp 2) (.tmp 12) rfl rfl rfl rfl SZ.out HZ.out ONE.out ?_)
      | fail)
    exact bodyPost_ret (results_mem2 (HM0.out.setRow _) rfl _ (.array 32 5) rfl Tryd.underlying39 rfl SZ.out) rfl ⟨rfl, below_row hb1 (Nat.le_refl _) _⟩
  · rw [if_neg hl]
    have hd : ((l.length : Int) != 32) = true := by simp; omega
    have z32 : (List.replicate 32 (0 : UInt8)).map byteV = List.replicate 32 (byteV 0) := by simp
    rw [z32]
    have SZ := Lib.hid (sz_id (List.replicate 32 0) (by simp))
    rw [z32] at SZ
    have ONE := Lib.hid (one_bytes (List.replicate 32 0))
    rw [z32] at ONE
    have HM0 := Lib.hid ((Mem.newAt w 39 (List.replicate 32 (byteV 0)) rfl).alloc (.cells (List.replicate 32 (byteV 0)).toArray 39))
    have hb1 : Below w.heap.size w ((w.alloc (.cells (List.replicate 32 (byteV 0)).toArray 39)).alloc (.cells (List.replicate 32 (byteV 0)).toArray 39)) := ((Below.refl _ _).alloc (Nat.le_refl _) _).alloc (by simp) _
    clear hl z32
    go_enter Tryd.func33, Tryd.ntmps33
    go_wp2_with (first
      | (refine wp_store_mem HM0.out (List.replicate 32 (byteV 0)) 39 (.tmp 2) (.tmp 8) rfl rfl rfl rfl SZ.out rfl ONE.out ?_)
      | fail)
    exact bodyPost_ret (results_mem2 (HM0.out.setRow _) rfl _ (.array 32 5) rfl Tryd.underlying39 rfl SZ.out) rfl ⟨rfl, below_row hb1 (Nat.le_refl _) _⟩
end Go.Proofs.YtjbjkkgkefpggaaDoor
