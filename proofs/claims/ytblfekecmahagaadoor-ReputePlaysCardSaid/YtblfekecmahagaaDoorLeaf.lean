/-
  The smallest functions of hash and of its reference: contracts.
-/
import Derived.Test.YtblfekecmahagaaDoorChecked
import Derived.Test.YtblfekecmahagaaDoorSha
import Derived.WalkKit
import Derived.WalkLawsBesides
import Derived.WalkSpells
import Derived.Outline
import Derived.IntWalk
import Derived.Laws.BitsAllLaws
import Derived.Deep.QuietTactic
import Derived.BigQuiet
import Derived.Lib.Hide
namespace Go.Proofs.YtblfekecmahagaaDoor
open Go.RowKit Crv

/-- A number that fits the kind comes out of the wrap as it is. -/
theorem wrap_u32_nat (a : Nat) : IntKind.u32.wrap (a : Int) = ((a % 4294967296 : Nat) : Int) := by rw [IntKind.wrap_u32']; omega
theorem wrap_u32_add (a b : Nat) : IntKind.u32.wrap ((a : Int) + (b : Int)) = (((a + b) % 4294967296 : Nat) : Int) := by rw [IntKind.wrap_u32']; omega
theorem ret_u32 {a b : Int} (h : a = b) : Ending.returned (.int .u32 a) = .returned (.int .u32 b) := by rw [h]

/-- A callee that leaves the world alone, inside a region that draws its order. -/
theorem quiet_here {P : Program} {f : FuncId} {args : Array Value} {w : World} {n : Nat} {v : Value}
    (h : Calls P f args (w.drewN n) fun e w' => e = .returned v ∧ w.drewN n = w') : Calls P f args (w.drewN n) fun e w'' => e = .returned v ∧ ∃ m, w'' = w.drewN m :=
  h.mono fun _ _ ⟨he, hm⟩ => ⟨he, n, hm.symm⟩
/-- The same behind another such region. -/
theorem quiet_there {P : Program} {f : FuncId} {args : Array Value} {w : World} {a n : Nat} {v : Value}
    (h : Calls P f args (w.drewN (a + n)) fun e w' => e = .returned v ∧ w.drewN (a + n) = w') : Calls P f args (w.drewN (a + n)) fun e w'' => e = .returned v ∧ ∃ m, w'' = w.drewN (a + m) :=
  h.mono fun _ _ ⟨he, hm⟩ => ⟨he, n, hm.symm⟩

theorem rot_amount (n : Nat) (h1 : 0 < n) (h2 : n < 32) : bits .and .u64 (IntKind.u64.wrap (-(n : Int))) 31 = ((32 - n : Nat) : Int) := by
  have e : IntKind.u64.wrap (-(n : Int)) = ((18446744073709551616 - n : Nat) : Int) := by rw [IntKind.wrap_u64]; omega
  rw [e, show (31 : Int) = ((31 : Nat) : Int) from rfl, u64_and_nat _ _ (by omega) (by omega), nat_mask5]
  congr 1
  omega

theorem rotl_bits (x n : Nat) (hx : x < 4294967296) (h2 : n < 32) : bits .or .u32 ((x : Int) * 2 ^ (32 - n) % 4294967296) ((x : Int) / 2 ^ (32 - (32 - n))) = (rotr n x : Int) := by
  have e1 : ((x : Int) * 2 ^ (32 - n) % 4294967296) = ((x * 2 ^ (32 - n) % 4294967296 : Nat) : Int) := by
    simp [Int.natCast_emod, Int.natCast_mul, Int.natCast_pow]
  have e2 : ((x : Int) / 2 ^ (32 - (32 - n))) = ((x / 2 ^ n : Nat) : Int) := by
    rw [show 32 - (32 - n) = n from by omega]; simp [Int.natCast_ediv, Int.natCast_pow]
  have h : x / 2 ^ n ≤ x := Nat.div_le_self _ _
  rw [e1, e2, u32_or_nat _ _ (by omega) (by omega), rotr_or (by omega) hx]

set_option maxHeartbeats 400000 in
theorem rotl_any (x n : Nat) (w : World) (hx : x < 4294967296) (h1 : 0 < n) (h2 : n < 32) :
    Calls Tryd.prog 73 #[.int .u32 x, .int .i64 (-(n : Int))] w fun e w' => e = .returned (.int .u32 (rotr n x)) ∧ w = w' := by
  have ha := rot_amount n h1 h2
  go_enter Tryd.func73, Tryd.ntmps73
  go_wp2
  go_ret
  exact ⟨ret_u32 (rotl_bits x n hx h2), rfl⟩

set_option maxHeartbeats 400000 in
theorem rotated_any (x n : Nat) (w : World) (hx : x < 4294967296) (h1 : 0 < n) (h2 : n < 32) :
    Calls Tryd.prog 72 #[.int .u32 x, .int .i64 n] w fun e w' => e = .returned (.int .u32 (rotr n x)) ∧ w = w' := by
  go_enter Tryd.func72, Tryd.ntmps72
  go_wp2_with fail
  refine (rotl_any x n _ hx h1 h2).mono ?_
  rintro e w' ⟨rfl, rfl⟩
  go_wp2
  go_ret
  exact ⟨rfl, rfl⟩

/-- The rotation's amount as the walk writes a numeral. -/
theorem rotated_int (x : Nat) (k : Int) (w : World) (hx : x < 4294967296) (h1 : 0 < k) (h2 : k < 32) :
    Calls Tryd.prog 72 #[.int .u32 x, .int .i64 k] w fun e w' => e = .returned (.int .u32 (rotr k.toNat x)) ∧ w = w' := by
  obtain ⟨n, rfl⟩ := Int.eq_ofNat_of_zero_le (Int.le_of_lt h1)
  exact rotated_any x n w hx (by omega) (by omega)

theorem xor_u32 (a b : Nat) (ha : a < 4294967296) (hb : b < 4294967296) : bits .xor .u32 (a : Int) (b : Int) = ((a ^^^ b : Nat) : Int) := u32_xor_nat a b ha hb

set_option maxHeartbeats 400000 in
theorem rotations_any (x n m o : Nat) (w : World) (hx : x < 4294967296) (h1 : 0 < n) (h2 : n < 32) (h3 : 0 < m) (h4 : m < 32) (h5 : 0 < o) (h6 : o < 32) :
    Calls Tryd.prog 69 #[.int .u32 x, .int .i64 n, .int .i64 m, .int .i64 o] w fun e w' => e = .returned (.int .u32 ((rotr n x ^^^ rotr m x ^^^ rotr o x : Nat) : Int)) ∧ w = w' := by
  go_enter Tryd.func69, Tryd.ntmps69
  go_wp2_with fail
  refine (rotated_any x n _ hx h1 h2).mono ?_
  rintro e w' ⟨rfl, rfl⟩
  go_wp2_with fail
  refine (rotated_any x m _ hx h3 h4).mono ?_
  rintro e w' ⟨rfl, rfl⟩
  go_wp2_with fail
  refine (rotated_any x o _ hx h5 h6).mono ?_
  rintro e w' ⟨rfl, rfl⟩
  go_wp2
  go_ret
  have l1 := rotr_lt (n := n) (by omega) hx
  have l2 := rotr_lt (n := m) (by omega) hx
  have l3 := rotr_lt (n := o) (by omega) hx
  exact ⟨ret_u32 (by rw [xor_u32 _ _ l1 l2, xor_u32 _ _ (xor_lt l1 l2) l3]), rfl⟩

theorem rotations_int (x : Nat) (n m o : Int) (w : World) (hx : x < 4294967296) (h1 : 0 < n) (h2 : n < 32) (h3 : 0 < m) (h4 : m < 32) (h5 : 0 < o) (h6 : o < 32) :
    Calls Tryd.prog 69 #[.int .u32 x, .int .i64 n, .int .i64 m, .int .i64 o] w fun e w' => e = .returned (.int .u32 ((rotr n.toNat x ^^^ rotr m.toNat x ^^^ rotr o.toNat x : Nat) : Int)) ∧ w = w' := by
  obtain ⟨a, rfl⟩ := Int.eq_ofNat_of_zero_le (Int.le_of_lt h1)
  obtain ⟨b, rfl⟩ := Int.eq_ofNat_of_zero_le (Int.le_of_lt h3)
  obtain ⟨c, rfl⟩ := Int.eq_ofNat_of_zero_le (Int.le_of_lt h5)
  exact rotations_any x a b c w hx (by omega) (by omega) (by omega) (by omega) (by omega) (by omega)

set_option maxHeartbeats 400000 in
theorem ror_any (x n : Nat) (w : World) (hx : x < 4294967296) (h1 : 0 < n) (h2 : n < 32) :
    Calls Tryd.prog 61 #[.int .u32 x, .int .i64 n] w fun e w' => e = .returned (.int .u32 (rotr n x)) ∧ ∃ k, w' = w.drewN k := by
  go_enter Tryd.func61, Tryd.ntmps61
  go_wp2
  go_quiet (fail)
  go_wp2
  go_ret
  refine ⟨ret_u32 ?_, _, rfl⟩
  have l := rotr_lt (n := n) (by omega) hx
  have e : ((x : Int) / 2 ^ n + (x : Int) * 2 ^ (32 - n) % 4294967296) = (rotr n x : Int) := by
    simp [rotr, Int.natCast_emod, Int.natCast_mul, Int.natCast_pow, Int.natCast_ediv]
  show ((x : Int) / 2 ^ n + (x : Int) * 2 ^ (32 - n) % 4294967296) % 4294967296 = _
  rw [e]
  omega
end Go.Proofs.YtblfekecmahagaaDoor
