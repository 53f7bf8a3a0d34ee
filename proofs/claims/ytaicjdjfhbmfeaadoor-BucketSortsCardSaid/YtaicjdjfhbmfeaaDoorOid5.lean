/-
  Package oid: Shared.
-/
import Derived.Test.YtaicjdjfhbmfeaaDoorOid4
namespace Go.Proofs.YtaicjdjfhbmfeaaDoor
open Go.RowKit Crv

/-- The length of the common prefix in bits. -/
def sharedOf (x y : List UInt8) : Nat :=
  match (List.range 32).find? fun i => x.getD i 0 != y.getD i 0 with
  | some i => 8 * i + (8 - len8 (x.getD i 0 ^^^ y.getD i 0))
  | none => 256
theorem sharedOf_at (x y : List UInt8) (k : Nat) (hk : k < 32) (h : ∀ j, j < k → x.getD j 0 = y.getD j 0) (hne : x.getD k 0 ≠ y.getD k 0) : sharedOf x y = 8 * k + (8 - len8 (x.getD k 0 ^^^ y.getD k 0)) := by
  have e : (List.range 32).find? (fun i => x.getD i 0 != y.getD i 0) = some k := by
    rw [List.find?_range_eq_some]
    refine ⟨by simpa using hne, by simpa using hk, fun j hj => ?_⟩
    simpa using h j hj
  unfold sharedOf
  rw [e]
theorem sharedOf_all (x y : List UInt8) (h : ∀ j, j < 32 → x.getD j 0 = y.getD j 0) : sharedOf x y = 256 := by
  have e : (List.range 32).find? (fun i => x.getD i 0 != y.getD i 0) = none := by
    rw [List.find?_eq_none]
    intro j hj
    simpa using h j (by simpa using hj)
  unfold sharedOf
  rw [e]

set_option maxHeartbeats 1000000 in
set_option maxRecDepth 100000 in
theorem shared_any (x y : List UInt8) (w : World) (hx : x.length = 32) (hy : y.length = 32) :
    Calls Tryd.prog 27 #[.agg (x.map byteV).toArray, .agg (y.map byteV).toArray] w fun e w' => e = .returned (.int .i64 (sharedOf x y : Int)) ∧ Below w.heap.size w w' := by
  have HX := Lib.hid hx
  have HY := Lib.hid hy
  clear hx hy
  go_enter Tryd.func27, Tryd.ntmps27
  go_wp2_with fail
  go_loopw [6] (fun i wr => ∃ k : Nat, k ≤ 32 ∧ i = .int .i64 k ∧ Hid ((∀ j, j < k → x.getD j 0 = y.getD j 0) ∧ Mem wr w.heap.size 36 (x.map byteV) ∧ Mem wr (w.heap.size + 1) 36 (y.map byteV)) ∧ Below w.heap.size w wr) (fun i _ => 32 - (intOf i).toNat)
  case atStart =>
    refine ⟨0, by omega, rfl, Lib.hid ⟨fun j hj => absurd hj (Nat.not_lt_zero _), ?_, ?_⟩, ((Below.refl _ _).alloc (Nat.le_refl _) _).alloc (by simp) _⟩
    · exact (Mem.newAt w 36 (x.map byteV) rfl).alloc _
    · exact Mem.newAt (w.alloc _) 36 (y.map byteV) (by simp)
  case round =>
    obtain ⟨k, hk, rfl, HM, hb⟩ := hrel
    by_cases hlt : k < 32
    · obtain ⟨a, ha⟩ : ∃ a, a = x.getD k 0 := ⟨_, rfl⟩
      obtain ⟨b, hb'⟩ : ∃ b, b = y.getD k 0 := ⟨_, rfl⟩
      have c0 : wr.cell? ⟨w.heap.size, k, none⟩ = some (.int .u8 (a.toNat : Int)) := by
        rw [HM.out.2.1.cell, List.getElem?_map, List.getElem?_eq_getElem (by rw [HX.out]; exact hlt), ha, List.getD_eq_getElem?_getD, List.getElem?_eq_getElem (by rw [HX.out]; exact hlt)]; rfl
      have c1 : wr.cell? ⟨w.heap.size + 1, k, none⟩ = some (.int .u8 (b.toNat : Int)) := by
        rw [HM.out.2.2.cell, List.getElem?_map, List.getElem?_eq_getElem (by rw [HY.out]; exact hlt), hb', List.getD_eq_getElem?_getD, List.getElem?_eq_getElem (by rw [HY.out]; exact hlt)]; rfl
      have hkl : (k : Int) < 32 := by omega
      have hd : decide ((k : Int) < 32) = true := by simp; omega
      have HA := Lib.hid ha
      have HB := Lib.hid hb'
      clear ha hb'
      by_cases hab : a = b
      · have hne : ((a.toNat : Int) != (b.toNat : Int)) = false := by simp [hab]
        go_wp2_with fail
        go_region
        rename_i K hK
        refine hK _ _ ?_
        go_wp2
        go_roundw
        case rel => exact ⟨k + 1, by omega, by go_num, Lib.hid ⟨fun j hj => by
          by_cases hjk : j = k
          · rw [hjk, ← HA.out, ← HB.out, hab]
          · exact HM.out.1 j (by omega), HM.out.2.1.drew, HM.out.2.2.drew⟩, below_drewN hb 1⟩
        case measure => simp [intOf]; omega
      · have hne : ((a.toNat : Int) != (b.toNat : Int)) = true := by simpa using fun h => hab (UInt8.toNat_inj.1 (by omega))
        go_wp2_with fail
        go_region
        rename_i K hK
        refine hK _ _ ?_
        have HCL := Lib.hid (show ∀ W, Calls Tryd.prog 55 #[.int .u8 (bits .xor .u8 (a.toNat : Int) (b.toNat : Int))] W fun e w' => e = .returned (.int .i64 ((8 - len8 (a ^^^ b) : Nat) : Int)) ∧ W = w' from fun W => by rw [xor_u8]; exact clz8_any _ W)
        have HSH := Lib.hid (show sharedOf x y = 8 * k + (8 - len8 (a ^^^ b)) by rw [HA.out, HB.out]; exact sharedOf_at x y k hlt HM.out.1 (by rw [← HA.out, ← HB.out]; exact hab))
        have l8 : 8 - len8 (a ^^^ b) ≤ 8 := by omega
        obtain ⟨z, hz⟩ : ∃ z, z = 8 - len8 (a ^^^ b) := ⟨_, rfl⟩
        rw [← hz] at HCL HSH l8
        clear hz
        have u1 : IntKind.i64.wrap (8 * (k : Int)) = 8 * (k : Int) := by rw [IntKind.wrap_i64]; omega
        have u2 : IntKind.i64.wrap (8 * (k : Int) + (z : Int)) = 8 * (k : Int) + (z : Int) := by rw [IntKind.wrap_i64]; omega
        go_wp2_with fail
        go_region_held3 (fun w' => w'.cell? ⟨w.heap.size, k, none⟩ = some (.int .u8 (a.toNat : Int)) ∧ w'.cell? ⟨w.heap.size + 1, k, none⟩ = some (.int .u8 (b.toNat : Int)))
          (first
            | (exact ⟨c0, c1⟩)
            | (assumption))
          (first
            | (go_at_call 55; refine (HCL.out _).mono ?_; rintro e w' ⟨rfl, rfl⟩))
        rename_i K2 hK2 hHe
        refine hK2 _ _ ?_
        go_wp2
        go_ret
        exact ⟨by rw [HSH.out]; simp, below_drewN hb 2⟩
    · have ek : k = 32 := by omega
      subst ek
      have hsh := Lib.hid (sharedOf_all x y HM.out.1)
      go_wp2
      go_ret
      exact ⟨by rw [hsh.out]; rfl, hb⟩
end Go.Proofs.YtaicjdjfhbmfeaaDoor
