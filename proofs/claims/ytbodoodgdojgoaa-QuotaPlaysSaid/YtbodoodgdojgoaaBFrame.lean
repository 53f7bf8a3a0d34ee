/-
  What the rows of a seat without listed variables want.
-/
import Derived.Test.YtbodoodgdojgoaaRows
import Derived.Test.YtbodoodgdojgoaaBase
import Derived.ProofKit
import Derived.OpenShut
import Derived.ShutString
import Derived.ChangeOld
import Derived.Stop.Joined
namespace Go.Proofs.Ytbodoodgdojgoaa
open Go.ChangeShapes Go.WideShapes Go.ChangeAt Go.RowKit Crv

theorem ownB : ownKnob Try.prog.godebug = none := by kernel_rfl
end Go.Proofs.Ytbodoodgdojgoaa
