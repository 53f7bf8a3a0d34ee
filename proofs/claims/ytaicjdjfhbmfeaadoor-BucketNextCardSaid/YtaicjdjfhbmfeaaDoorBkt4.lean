/-
  Package bucket: ID; the bucket of an address.
-/
import Derived.Test.YtaicjdjfhbmfeaaDoorBkt3
import Derived.Test.YtaicjdjfhbmfeaaDoorOid9
import Derived.Test.YtaicjdjfhbmfeaaDoorNam
namespace Go.Proofs.YtaicjdjfhbmfeaaDoor
open Go.RowKit Crv

/-- The byte of an address. -/
def b8 (n : Int) : UInt8 := UInt8.ofNat (n % 256).toNat
theorem b8_nat (n : Int) : ((b8 n).toNat : Int) = n % 256 := by
  unfold b8
  rw [UInt8.toNat_ofNat']
  omega
set_option maxHeartbeats 1000000 in
set_option maxRecDepth 100000 in
theorem id_any (n : Int) (w : World) (hc : Consts w) : Calls Tryd.prog 26 #[iv n] w fun e w' => e = .returned (.agg ((idN n).map byteV).toArray) ∧ Below w.heap.size w w' := by
  have HB := Lib.hid (b8_nat n)
  have HF := Lib.hid (show ∀ v W, StrSlice W v [[b8 n]] → Consts W → Calls Tryd.prog 54 #[.int .i64 4, v] W fun e w' => e = .returned (.agg ((idN n).map byteV).toArray) ∧ Below W.heap.size W w' from fun v W hv hc => ofOid_any 4 (by omega) v [[b8 n]] W hc hv (by simp) (by simp))
  have HL := Lib.hid (length_idN n)
  obtain ⟨x, hx⟩ : ∃ x, x = idN n := ⟨_, rfl⟩
  rw [← hx] at HL ⊢
  simp only [← hx] at HF
  clear hx
  obtain ⟨c, hcc⟩ : ∃ c, c = b8 n := ⟨_, rfl⟩
  rw [← hcc] at HB
  simp only [← hcc] at HF
  clear hcc
  have SZ := Lib.hid (sz_id x HL.out)
  have HZ := Lib.hid (show (List.replicate 32 (byteV 0)).length = (x.map byteV).length by rw [List.length_map, HL.out]; rfl)
  have ONE := Lib.hid (oneBytes x)
  have HST := Lib.hid (fun (W : World) (g : Nat) (hg : g = W.heap.size) => byteStr (n % 256) c HB.out.symm (W.alloc (.cells #[.int .u8 (n % 256)] 5)) (g := g) (Mem.newAt W 5 [.int .u8 (n % 256)] hg))
  have HC := Lib.hid hc
  clear hc
  have hst := HST.out (w.alloc (.cells zs32 TI)) (w.heap.size + 1) (by simp)
  go_enter Tryd.func26, Tryd.ntmps26
  go_wp2_with fail
  have HB2 := Lib.hid (((belowSelf w (.cells zs32 TI)).alloc (by simp) (.cells #[.int .u8 (n % 256)] 5)).alloc (by simp; omega) (.cells #[tx [c]] 9))
  have HC2 := Lib.hid (HC.out.below HB2.out)
  have HV2 := Lib.hid (show StrSlice (((w.alloc (.cells zs32 TI)).alloc (.cells #[.int .u8 (n % 256)] 5)).alloc (.cells #[tx [c]] 9)) (.slice (some ⟨w.heap.size + 1 + 1, 0, none⟩) 1 1) [[c]] from ⟨_, 1, rfl, fun i hi => ⟨w.heap.size + 1 + 1, 0, rfl, by
    have hm := Mem.newAt (g := w.heap.size + 1 + 1) ((w.alloc (.cells zs32 TI)).alloc (.cells #[.int .u8 (n % 256)] 5)) 9 [tx [c]] (by simp)
    have h0 : i = 0 := by simp at hi; exact hi
    subst h0
    exact hm.cell 0⟩⟩)
  have HM0 := Lib.hid (show Mem (((w.alloc (.cells zs32 TI)).alloc (.cells #[.int .u8 (n % 256)] 5)).alloc (.cells #[tx [c]] 9)) w.heap.size TI (List.replicate 32 (byteV 0)) from ((Mem.newAt w TI (List.replicate 32 (byteV 0)) rfl).alloc _).alloc _)
  refine (HF.out _ _ HV2.out HC2.out).mono ?_
  rintro e w1 ⟨rfl, hb1⟩
  have HM1 := Lib.hid (HM0.out.below hb1 HM0.out.lt)
  have HB3 := Lib.hid (belowThen HB2.out hb1)
  clear hb1
  go_wp2_with (first
    | (refine wp_store_mem HM1.out (x.map byteV) TI (.tmp 2) (.tmp 8) rfl rfl rfl rfl SZ.out HZ.out ONE.out ?_)
    | fail)
  exact bodyPost_ret (v := .agg (x.map byteV).toArray) (results_mem (HM1.out.setRow _) rfl _ (.array 32 5) rfl Tryd.underlying36 rfl SZ.out) rfl ⟨rfl, below_row HB3.out (Nat.le_refl _) _⟩
end Go.Proofs.YtaicjdjfhbmfeaaDoor
