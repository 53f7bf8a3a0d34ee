/-
  Package oid: Parse: where a sign stands in the alphabet (strings.IndexByte, by internal/bytealg.IndexByteString, which the model answers in place).
-/
import Derived.Test.YtmbihhfhpijgpaaDoorOid14
import Derived.Laws.Externs
namespace Go.Proofs.YtmbihhfhpijgpaaDoor
open Go.RowKit Crv

/-- Where a sign stands in the alphabet, or below 0. -/
def place (b : UInt8) : Int := firstIdx (str alpha) b
theorem run_indexByte (b : UInt8) (W : World) : (callFunc 57 #[.string (str alpha), .int .u8 (b.toNat : Int)]).run Tryd.prog W = .ok (.value (.int .i64 (place b))) W := by
  rw [run_callFunc_extern (e := Extern.BytealgIndexByte.indexByte) Tryd.func57 (by kernel_rfl) (by kernel_rfl) (by kernel_rfl) (by kernel_rfl), run_indexByte_string]
  have hb : (b.toNat : Int).toNat.toUInt8 = b := by simp
  rw [hb]
  rfl
theorem stringslite_IndexByte (b : UInt8) (W : World) : Calls Tryd.prog 53 #[.string (str alpha), .int .u8 (b.toNat : Int)] W fun e w' => e = .returned (.int .i64 (place b)) ∧ w' = W := by
  go_enter Tryd.func53, Tryd.ntmps53
  go_wp2
  rw [run_indexByte]
  rw [Oper.upon_value]
  go_wp2
  go_ret
  exact ⟨rfl, rfl⟩
theorem strings_IndexByte (b : UInt8) (W : World) : Calls Tryd.prog 45 #[.string (str alpha), .int .u8 (b.toNat : Int)] W fun e w' => e = .returned (.int .i64 (place b)) ∧ w' = W := by
  go_enter Tryd.func45, Tryd.ntmps45
  go_wp2_with fail
  refine (stringslite_IndexByte b W).mono ?_
  rintro _ _ ⟨rfl, rfl⟩
  go_wp2
  go_ret
  exact ⟨rfl, rfl⟩
theorem place_ok : ∀ b, (place b < 0 ∨ (place b < 32 ∧ 0 ≤ place b ∧ sgn (place b).toNat = b)) := by
  refine forall_u8 ?_
  decide +kernel
theorem place_sgn : ∀ n : Fin 32, place (sgn n.val) = (n.val : Int) := by decide +kernel
end Go.Proofs.YtmbihhfhpijgpaaDoor
