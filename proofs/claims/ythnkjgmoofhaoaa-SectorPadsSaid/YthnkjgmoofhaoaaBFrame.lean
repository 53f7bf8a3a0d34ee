/-
  What the rows of a seat without listed variables want.
-/
import Derived.Test.YthnkjgmoofhaoaaRows
import Derived.Test.YthnkjgmoofhaoaaBase
import Derived.ProofKit
import Derived.OpenShut
import Derived.ShutString
import Derived.ChangeOld
import Derived.Stop.Joined
namespace Go.Proofs.Ythnkjgmoofhaoaa
open Go.ChangeShapes Go.WideShapes Go.ChangeAt Go.RowKit Crv

theorem ownB : ownKnob Try.prog.godebug = none := by kernel_rfl
end Go.Proofs.Ythnkjgmoofhaoaa
