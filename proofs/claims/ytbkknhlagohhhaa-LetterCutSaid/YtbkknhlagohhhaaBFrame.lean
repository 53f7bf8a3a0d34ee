/-
  What the rows of a seat without listed variables want.
-/
import Derived.Test.YtbkknhlagohhhaaRows
import Derived.Test.YtbkknhlagohhhaaBase
import Derived.ProofKit
import Derived.OpenShut
import Derived.ShutString
import Derived.ChangeOld
import Derived.Stop.Joined
namespace Go.Proofs.Ytbkknhlagohhhaa
open Go.ChangeShapes Go.WideShapes Go.ChangeAt Go.RowKit Crv

theorem ownB : ownKnob Try.prog.godebug = none := by kernel_rfl
end Go.Proofs.Ytbkknhlagohhhaa
