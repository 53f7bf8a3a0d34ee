/-
  The reference of layer 2: Xor.
-/
import Derived.Test.YtaicjdjfhbmfeaaDoorOid11
namespace Go.Proofs.YtaicjdjfhbmfeaaDoor
open Go.RowKit Crv

theorem xorOf_take_succ (x y : List UInt8) (hx : x.length = 32) (hy : y.length = 32) (k : Nat) (h : k < 32) : (xorOf x y).take (k + 1) = (xorOf x y).take k ++ [x.getD k 0 ^^^ y.getD k 0] := by
  have hl := length_xorOf x y hx hy
  rw [List.take_succ_eq_append_getElem (by omega), List.getD_eq_getElem?_getD, List.getD_eq_getElem?_getD, List.getElem?_eq_getElem (by omega), List.getElem?_eq_getElem (by omega)]
  simp [xorOf]

set_option maxHeartbeats 1000000 in
set_option maxRecDepth 100000 in
theorem refXor_any (x y : List UInt8) (w : World) (hx : x.length = 32) (hy : y.length = 32) :
    Calls Tryd.prog 44 #[.string (str x), .string (str y)] w fun e w' => e = .returned (.string (str (xorOf x y))) ∧ Below w.heap.size w w' := by
  have HX := Lib.hid hx
  have HY := Lib.hid hy
  have hxl : (x.length : Int) = 32 := by omega
  obtain ⟨ti, hi, hz, hs, hby⟩ : ∃ i, Tryd.prog.info? 5 = some i ∧ i.zero = some (.int .u8 0) ∧ i.size = 1 ∧ i.bytes = 1 := info_of (by kernel_rfl)
  have HBY : ti.bytes ≤ 64 := by omega
  have HI := Lib.hid hi
  have HZ := Lib.hid hz
  have HS := Lib.hid hs
  clear hi hz hs hby hx hy
  go_enter Tryd.func44, Tryd.ntmps44
  go_wp2_with fail
  go_loopw [5, 6] (fun v i wr => ∃ k : Nat, k ≤ 32 ∧ i = .int .i64 k ∧ Owns wr w.heap.size 5 v (((xorOf x y).take k).map byteV) ∧ Below w.heap.size w wr) (fun _ i _ => 32 - (intOf i).toNat)
  case atStart => exact ⟨0, by omega, rfl, Owns.of_mem (Mem.newAt w 5 [] rfl) (Nat.le_refl _) 0 0 (Nat.le_refl _) rfl (by simp [maxLen]) rfl, belowSelf w _⟩
  case round =>
    obtain ⟨k, hk, rfl, hown, hb⟩ := hrel
    have HO := Lib.hid hown
    have hbz := hb.size
    clear hown
    by_cases hlt : k < 32
    · obtain ⟨a, ha⟩ : ∃ a, a = x.getD k 0 := ⟨_, rfl⟩
      obtain ⟨b, hb'⟩ : ∃ b, b = y.getD k 0 := ⟨_, rfl⟩
      have i1 : ∀ W, (Instr.index 9 (.string (str x)) (.int .i64 (k : Int))).run Tryd.prog W = .ok (.int .u8 (a.toNat : Int)) W := fun W => by rw [ha]; exact run_index_str 9 Tryd.underlying9 x .i64 k (by rw [HX.out]; exact hlt) W
      have i2 : ∀ W, (Instr.index 9 (.string (str y)) (.int .i64 (k : Int))).run Tryd.prog W = .ok (.int .u8 (b.toNat : Int)) W := fun W => by rw [hb']; exact run_index_str 9 Tryd.underlying9 y .i64 k (by rw [HY.out]; exact hlt) W
      have hxr := xor_u8 a b
      have HTK := Lib.hid (show ((xorOf x y).take (k + 1)).map byteV = ((xorOf x y).take k).map byteV ++ [byteV (a ^^^ b)] by rw [xorOf_take_succ x y HX.out HY.out k hlt, ← ha, ← hb']; simp)
      have HLEN := Lib.hid (show (((xorOf x y).take k).map byteV).length + [byteV (a ^^^ b)].length ≤ 1099511627776 by
        rw [List.length_map]
        have := List.length_take_le k (xorOf x y)
        simp; omega)
      have HONE := Lib.hid (show ∀ u ∈ [byteV (a ^^^ b)], u.oneCell' = true by intro u hu; simp at hu; subst hu; rfl)
      have hd : decide ((k : Int) < 32) = true := by simp; omega
      have hkl : (k : Int) < 32 := by omega
      clear ha hb'
      obtain ⟨c, hc⟩ : ∃ c, c = a ^^^ b := ⟨_, rfl⟩
      rw [← hc] at hxr HTK HLEN HONE
      clear hc
      go_wp2_with fail
      go_region_held3 (fun _ => True) (trivial)
        (first
          | (refine step_append_keep ((HO.out.drewN _).alloc _) w.heap.size ((below_drewN hb _).alloc hbz _) (Nat.le_refl _) [byteV c] (.tmp 14) (.tmp 22) 79 ti (.int .u8 0) rfl rfl Tryd.underlying79 HI.out HZ.out HS.out HBY rfl rfl rfl (fun j u hu => cell_news_one _ _ _ j u hu) HONE.out HLEN.out (by simp; omega) ?_; intro v' w3 hown' hb3 hz3 hkp; rw [← HTK.out] at hown'; have HO3 := Lib.hid hown'; clear hown'))
      all_goals
        clear hkp hz3 i1 i2 hxr
        go_wp2
        go_roundw
        case rel =>
          first
            | exact ⟨k + 1, by omega, by go_num, HO3.out, hb3⟩
            | ((repeat apply Exists.intro); exact ⟨⟨k + 1, by omega, by go_num, HO3.out, hb3⟩, rfl⟩)
        case measure => simp [intOf]; omega
    · have e : k = 32 := by omega
      subst e
      rw [List.take_of_length_le (by rw [length_xorOf x y HX.out HY.out]; exact Nat.le_refl _)] at HO
      have hcv := HO.out.string (P := Tryd.prog) (src := 79) (dst := 9) Tryd.underlying79 Tryd.underlying5 Tryd.underlying9
      go_wp2
      go_ret
      exact ⟨rfl, hb⟩
end Go.Proofs.YtaicjdjfhbmfeaaDoor
