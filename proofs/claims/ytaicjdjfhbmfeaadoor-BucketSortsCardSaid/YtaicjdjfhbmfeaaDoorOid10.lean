/-
  The law package of layer 2: awake.
-/
import Derived.Test.YtaicjdjfhbmfeaaDoorOid9
namespace Go.Proofs.YtaicjdjfhbmfeaaDoor
open Go.RowKit Crv

/-- A name that begins with this byte. -/
def one (b : UInt8) : List UInt8 := b :: List.replicate 31 0
theorem length_one (b : UInt8) : (one b).length = 32 := rfl
abbrev zero32' : List UInt8 := List.replicate 32 0
theorem build_one (b : UInt8) : (one b).map byteV = byteV b :: List.replicate 31 (byteV 0) := by simp [one]
theorem shared_7 : sharedOf (one 128) (one 129) = 7 := by decide +kernel
theorem closer_12 : decide (cmpOf (xorOf zero32' (one 1)) (xorOf zero32' (one 2)) < 0) = true := by decide +kernel
theorem closer_21 : decide (cmpOf (xorOf zero32' (one 2)) (xorOf zero32' (one 1)) < 0) = false := by decide +kernel

attribute [local go_sem ↓] ld_id
end Go.Proofs.YtaicjdjfhbmfeaaDoor
