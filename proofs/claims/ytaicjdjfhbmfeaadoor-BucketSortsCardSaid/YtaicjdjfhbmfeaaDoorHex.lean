/-
  hash.Hex.
-/
import Derived.Test.YtaicjdjfhbmfeaaDoorApp
import Derived.Test.YtaicjdjfhbmfeaaDoorHash
import Derived.Test.YtaicjdjfhbmfeaaDoorStr2
namespace Go.Proofs.YtaicjdjfhbmfeaaDoor
open Go.RowKit Crv

def hexDigits : List UInt8 := [48, 49, 50, 51, 52, 53, 54, 55, 56, 57, 97, 98, 99, 100, 101, 102]
def hexd (n : Nat) : UInt8 := hexDigits.getD n 0
def hex2 (b : UInt8) : List UInt8 := [hexd (b.toNat / 16), hexd (b.toNat % 16)]
def hexOf (l : List UInt8) : List UInt8 := l.flatMap hex2
theorem length_hexOf (l : List UInt8) : (hexOf l).length = 2 * l.length := by
  unfold hexOf
  induction l with
  | nil => rfl
  | cons x r ih => simp only [List.flatMap_cons, List.length_append, List.length_cons, ih]; simp [hex2]; omega
theorem hexOf_take_succ (l : List UInt8) (k : Nat) (h : k < l.length) : hexOf (l.take (k + 1)) = hexOf (l.take k) ++ hex2 (l.getD k 0) := by
  unfold hexOf
  rw [List.take_succ_eq_append_getElem h, List.flatMap_append, List.getD_eq_getElem?_getD, List.getElem?_eq_getElem h]
  simp

end Go.Proofs.YtaicjdjfhbmfeaaDoor
