/-
  The reference of layer 1: word, key, Bytes, schedule.
-/
import Derived.Test.YtblfekecmahagaaDoorLeaf
import Derived.Test.YtblfekecmahagaaDoorApp
namespace Go.Proofs.YtblfekecmahagaaDoor
open Go.RowKit Crv

theorem ret_str {a b : List UInt8} (h : a = b) : Ending.returned (.string (str a)) = .returned (.string (str b)) := by rw [h]

set_option maxHeartbeats 400000 in
theorem word_any (l : List UInt8) (w : World) (hl : 4 ≤ l.length) :
    Calls Tryd.prog 70 #[.string (str l)] w fun e w' => e = .returned (.int .u32 (wordAt l 0)) ∧ ∃ k, w' = w.drewN k := by
  obtain ⟨b0, h0⟩ : ∃ b, b = l.getD 0 0 := ⟨_, rfl⟩
  obtain ⟨b1, h1⟩ : ∃ b, b = l.getD 1 0 := ⟨_, rfl⟩
  obtain ⟨b2, h2⟩ : ∃ b, b = l.getD 2 0 := ⟨_, rfl⟩
  obtain ⟨b3, h3⟩ : ∃ b, b = l.getD 3 0 := ⟨_, rfl⟩
  have i0 : ∀ W, (Instr.index 9 (.string (str l)) (.int .i64 0)).run Tryd.prog W = .ok (.int .u8 (b0.toNat : Int)) W := fun W => by rw [h0]; exact run_index_str 9 Tryd.underlying9 l .i64 0 (by omega) W
  have i1 : ∀ W, (Instr.index 9 (.string (str l)) (.int .i64 1)).run Tryd.prog W = .ok (.int .u8 (b1.toNat : Int)) W := fun W => by rw [h1]; exact run_index_str 9 Tryd.underlying9 l .i64 1 (by omega) W
  have i2 : ∀ W, (Instr.index 9 (.string (str l)) (.int .i64 2)).run Tryd.prog W = .ok (.int .u8 (b2.toNat : Int)) W := fun W => by rw [h2]; exact run_index_str 9 Tryd.underlying9 l .i64 2 (by omega) W
  have i3 : ∀ W, (Instr.index 9 (.string (str l)) (.int .i64 3)).run Tryd.prog W = .ok (.int .u8 (b3.toNat : Int)) W := fun W => by rw [h3]; exact run_index_str 9 Tryd.underlying9 l .i64 3 (by omega) W
  have HW := Lib.hid (show wordAt l 0 = b0.toNat * 16777216 + b1.toNat * 65536 + b2.toNat * 256 + b3.toNat by rw [h0, h1, h2, h3]; rfl)
  clear h0 h1 h2 h3
  have l0 := b0.toNat_lt
  have l1 := b1.toNat_lt
  have l2 := b2.toNat_lt
  have l3 := b3.toNat_lt
  go_enter Tryd.func70, Tryd.ntmps70
  go_wp2
  go_quiet (fail)
  go_wp2
  go_ret
  refine ⟨ret_u32 ?_, _, rfl⟩
  rw [HW.out]
  show (b0.toNat : Int) * 16777216 + (b1.toNat : Int) * 65536 + (b2.toNat : Int) * 256 + (b3.toNat : Int) = _
  omega

set_option maxHeartbeats 400000 in
theorem key_any (i : Nat) (w : World) (hi : i < 64) :
    Calls Tryd.prog 62 #[.int .i64 i] w fun e w' => e = .returned (.int .u32 (key i)) ∧ Below w.heap.size w w' := by
  go_enter Tryd.func62, Tryd.ntmps62
  go_wp2
  go_ret
  refine ⟨?_, (Below.refl _ _).alloc (Nat.le_refl _) _⟩
  have hk : (keyList.map wordV)[i]'(by simpa [keyList] using hi) = .int .u32 (key i) := by
    simp [key, List.getElem?_eq_getElem (show i < keyList.length by simpa [keyList] using hi)]
  rw [← hk]
  rfl

set_option maxHeartbeats 400000 in
theorem refBytes_any (x : Nat) (w : World) (hx : x < 4294967296) :
    Calls Tryd.prog 41 #[.int .u32 x] w fun e w' => e = .returned (.string (str (be4 x))) ∧ Below w.heap.size w w' := by
  have hcv : (convert 79 9 (.slice (some ⟨w.heap.size, 0, none⟩) 4 4)).run Tryd.prog (w.alloc (.cells #[.int .u8 ((x : Int) / 16777216), .int .u8 ((x : Int) / 65536 % 256), .int .u8 ((x : Int) / 256 % 256), .int .u8 ((x : Int) % 256)] 5)) =
      .ok (.string (str (be4 x))) (w.alloc (.cells #[.int .u8 ((x : Int) / 16777216), .int .u8 ((x : Int) / 65536 % 256), .int .u8 ((x : Int) / 256 % 256), .int .u8 ((x : Int) % 256)] 5)) := by
    have e : #[Value.int .u8 ((x : Int) / 16777216), .int .u8 ((x : Int) / 65536 % 256), .int .u8 ((x : Int) / 256 % 256), .int .u8 ((x : Int) % 256)] = ((be4 x).map byteV).toArray := by
      have c0 : (x : Int) / 16777216 = ((UInt8.ofNat (x / 16777216)).toNat : Int) := by rw [UInt8.toNat_ofNat']; omega
      have c1 : (x : Int) / 65536 % 256 = ((UInt8.ofNat (x / 65536)).toNat : Int) := by rw [UInt8.toNat_ofNat']; omega
      have c2 : (x : Int) / 256 % 256 = ((UInt8.ofNat (x / 256)).toNat : Int) := by rw [UInt8.toNat_ofNat']; omega
      have c3 : (x : Int) % 256 = ((UInt8.ofNat x).toNat : Int) := by rw [UInt8.toNat_ofNat']; omega
      rw [c0, c1, c2, c3]
      rfl
    rw [e]
    exact (Owns.of_mem (Mem.new w _ _) (Nat.zero_le _) 4 4 (Nat.le_refl _) rfl (by simp [maxLen]) rfl).string Tryd.underlying79 Tryd.underlying5 Tryd.underlying9
  go_enter Tryd.func41, Tryd.ntmps41
  go_wp2
  go_ret
  exact ⟨rfl, (Below.refl _ _).alloc (Nat.le_refl _) _⟩

/-- The contract of ror as the walk writes the amount. -/
theorem ror_int (x : Nat) (k : Int) (w : World) (hx : x < 4294967296) (h1 : 0 < k) (h2 : k < 32) :
    Calls Tryd.prog 61 #[.int .u32 x, .int .i64 k] w fun e w' => e = .returned (.int .u32 (rotr k.toNat x)) ∧ ∃ n, w' = w.drewN n := by
  obtain ⟨n, rfl⟩ := Int.eq_ofNat_of_zero_le (Int.le_of_lt h1)
  exact ror_any x n w hx (by omega) (by omega)
end Go.Proofs.YtblfekecmahagaaDoor
