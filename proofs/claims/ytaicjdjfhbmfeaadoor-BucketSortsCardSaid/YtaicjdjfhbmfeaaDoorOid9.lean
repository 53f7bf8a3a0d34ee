/-
  The reference's Of of layer 2.
-/
import Derived.Test.YtaicjdjfhbmfeaaDoorOid8
namespace Go.Proofs.YtaicjdjfhbmfeaaDoor
open Go.RowKit Crv
attribute [local go_sem] ByteArray.mk_append_mk

theorem byteStr (x : Int) (b : UInt8) (hx : x = (b.toNat : Int)) (W : World) {g : Nat} (hm : Mem W g 5 [.int .u8 x]) :
    (convert 79 9 (.slice (some ⟨g, 0, none⟩) 1 1)).run Tryd.prog W = .ok (.string (str [b])) W := by
  subst hx
  exact (Owns.of_mem (cs := [b].map byteV) hm (Nat.zero_le _) 1 1 (Nat.le_refl _) rfl (by simp [maxLen]) rfl).string Tryd.underlying79 Tryd.underlying5 Tryd.underlying9

set_option maxHeartbeats 2000000 in
set_option maxRecDepth 100000 in
theorem refOfOid_any (s : List UInt8) (w : World) (hs : s.length ≤ 1000000) :
    Calls Tryd.prog 66 #[.int .i64 1, .string (str s)] w fun e w' => e = .returned (.string (str (sha ([99, 114, 118] ++ headOf 1 s.length ++ s)))) ∧ Below w.heap.size w w' := by
  have hcv : ∀ W : World, (convert 79 9 (.slice (some ⟨W.heap.size, 0, none⟩) 1 1)).run Tryd.prog (W.alloc (.cells #[.int .u8 1] 5)) = .ok (.string (str [1])) (W.alloc (.cells #[.int .u8 1] 5)) := fun W => byteStr 1 1 rfl _ (Mem.new W _ _)
  have hcd : ∀ W : World, (convert 79 9 (.slice (some ⟨W.heap.size, 0, none⟩) 1 1)).run Tryd.prog (W.alloc (.cells #[.int .u8 1] 5)).drew = .ok (.string (str [1])) (W.alloc (.cells #[.int .u8 1] 5)).drew := fun W => byteStr 1 1 rfl _ (Mem.new W _ _).drew
  obtain ⟨L, hL⟩ : ∃ L, L = s.length := ⟨_, rfl⟩
  have HL := Lib.hid hL
  have hLI : L ≤ 1000000 := by omega
  have HBY := Lib.hid (fun W => refBytes_any s.length W (by omega))
  have HSZ := Lib.hid (show w.heap.size < ((w.alloc (.cells #[.int .u8 1] 5)).drew).heap.size by simp)
  have u0 : IntKind.u8.wrap 1 = 1 := by decide
  have u1 : IntKind.u32.wrap (s.length : Int) = (s.length : Int) := IntWalk.u32_in _ (by omega)
  have HREF := Lib.hid (fun W => refOf_any ([99, 114, 118] ++ headOf 1 s.length ++ s) W (by simp [headOf, be4]; omega))
  obtain ⟨b4, hb4⟩ : ∃ b4, b4 = be4 s.length := ⟨_, rfl⟩
  have hb4l : b4.length = 4 := by rw [hb4]; rfl
  have HHD := Lib.hid (show [99, 114, 118] ++ headOf 1 s.length ++ s = ([99, 114, 118, 1] : List UInt8) ++ (b4 ++ s) by rw [hb4]; simp [headOf])
  rw [← hb4] at HBY
  obtain ⟨D, hD⟩ : ∃ D, D = sha ([99, 114, 118] ++ headOf 1 s.length ++ s) := ⟨_, rfl⟩
  rw [← hD, HHD.out] at HREF
  rw [← hD]
  clear hL hb4 hD
  go_enter Tryd.func66, Tryd.ntmps66
  go_wp2_with fail
  go_region_with (first
      | (go_at_call 86; refine (HBY.out _).mono ?_; rintro e w1 ⟨rfl, hb1⟩; (first | have hc1 := byteStr 1 1 rfl w1 (Mem.below (Mem.drew (Mem.new w 5 [.int .u8 1])) hb1 HSZ.out) | skip))
      | (go_at_call 85; refine (HREF.out _).mono ?_; rintro e w2 ⟨rfl, hb2⟩)
      | fail)
  all_goals
    rename_i K hK hov
    refine hK _ _ ?_
    go_wp2
    go_ret
    first
      | exact ⟨rfl, belowThen (belowThen (below_drewN (belowSelf w _) 1) hb1) hb2⟩
      | exact ⟨rfl, belowThen (belowThen (belowThen (below_drewN (Below.refl w.heap.size w) 1) hb1) (belowSelf _ _)) hb2⟩
end Go.Proofs.YtaicjdjfhbmfeaaDoor
