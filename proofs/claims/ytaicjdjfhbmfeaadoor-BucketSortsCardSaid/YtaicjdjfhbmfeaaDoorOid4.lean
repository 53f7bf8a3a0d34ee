/-
  math/bits: Len8, LeadingZeros8.
-/
import Derived.Test.YtaicjdjfhbmfeaaDoorOid3
namespace Go.Proofs.YtaicjdjfhbmfeaaDoor
open Go.RowKit Crv

def len8tab : List UInt8 := (List.range 256).map fun n => UInt8.ofNat (if n = 0 then 0 else Nat.log2 n + 1)
/-- How many bits a byte needs. -/
def len8 (b : UInt8) : Nat := (len8tab.getD b.toNat 0).toNat
theorem forall_u8 {p : UInt8 → Prop} (h : ∀ n : Fin 256, p (UInt8.ofFin n)) : ∀ b, p b := fun b => by
  have := h b.toFin
  simpa using this
theorem len8_le : ∀ b, len8 b ≤ 8 := by
  refine forall_u8 ?_
  decide +kernel
set_option maxRecDepth 100000 in
theorem len8_any (b : UInt8) (w : World) :
    Calls Tryd.prog 81 #[.int .u8 (b.toNat : Int)] w fun e w' => e = .returned (.int .i64 (len8 b : Int)) ∧ w = w' := by
  have hb := b.toNat_lt
  go_enter Tryd.func81, Tryd.ntmps81
  go_wp2_with fail
  go_ret
  refine ⟨congrArg (fun z => Ending.returned (Value.int IntKind.i64 z)) ?_, rfl⟩
  clear hb
  revert b
  refine forall_u8 ?_
  decide +kernel
set_option maxRecDepth 100000 in
theorem clz8_any (b : UInt8) (w : World) :
    Calls Tryd.prog 55 #[.int .u8 (b.toNat : Int)] w fun e w' => e = .returned (.int .i64 ((8 - len8 b : Nat) : Int)) ∧ w = w' := by
  have hl := len8_le b
  go_enter Tryd.func55, Tryd.ntmps55
  go_wp2_with fail
  refine (len8_any b _).mono ?_
  rintro e w' ⟨rfl, rfl⟩
  go_wp2_with fail
  go_ret
  refine ⟨congrArg (fun z => Ending.returned (Value.int IntKind.i64 z)) ?_, rfl⟩
  first
    | omega
    | (rw [IntKind.wrap_i64]; omega)
    | go_num
end Go.Proofs.YtaicjdjfhbmfeaaDoor
