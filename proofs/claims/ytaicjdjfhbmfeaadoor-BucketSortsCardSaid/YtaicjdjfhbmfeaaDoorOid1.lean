/-
  Package oid: Bytes, Take; the laws' Name.
-/
import Derived.Test.YtaicjdjfhbmfeaaDoorLawLong
import Derived.Test.YtaicjdjfhbmfeaaDoorNam
import Derived.Laws.ResultCell
namespace Go.Proofs.YtaicjdjfhbmfeaaDoor
open Go.RowKit Crv

set_option maxRecDepth 100000 in
theorem bytes_any (x : List UInt8) (w : World) (hx : x.length = 32) :
    Calls Tryd.prog 19 #[.agg (x.map byteV).toArray] w fun e w' => e = .returned (.string (str x)) ∧ Below w.heap.size w w' := by
  have hcv := bytes_string (P := Tryd.prog) (src := 79) (dst := 9) (Mem.newAt w 36 (x.map byteV) rfl) Tryd.underlying79 Tryd.underlying5 Tryd.underlying9 hx
  have HX := Lib.hid hx
  clear hx
  go_enter Tryd.func19, Tryd.ntmps19
  go_wp2
  go_ret
  exact ⟨rfl, (Below.refl _ _).alloc (Nat.le_refl _) _⟩

end Go.Proofs.YtaicjdjfhbmfeaaDoor
