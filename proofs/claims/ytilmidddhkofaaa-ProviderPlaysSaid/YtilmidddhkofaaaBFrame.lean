/-
  What the rows of a seat without listed variables want.
-/
import Derived.Test.YtilmidddhkofaaaRows
import Derived.Test.YtilmidddhkofaaaBase
import Derived.ProofKit
import Derived.OpenShut
import Derived.ShutString
import Derived.ChangeOld
import Derived.Stop.Joined
namespace Go.Proofs.Ytilmidddhkofaaa
open Go.ChangeShapes Go.WideShapes Go.ChangeAt Go.RowKit Crv

theorem ownB : ownKnob Try.prog.godebug = none := by kernel_rfl
end Go.Proofs.Ytilmidddhkofaaa
