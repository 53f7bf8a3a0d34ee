/-
  No cell of these rows narrows 'for every input' (looked for: loops, veiled, ifaces, maps, wideKeys, modest, calm, conditions, laid).
  DERIVED. THE GIVEN ROWS OF THIS SEAT. 4 by the template 'for every input the law returns true; each argument reads behind the call as it read before'; 0 by the template 'total and deterministic' (their statements: YtclggeicpdkkdaaTotals.lean).
  GIVEN WITH THE SEED: the statements are not yours to turn. If you find one false, say at which input.
  Laid BY PROGRAM, IN A SANDBOX (cutbox-rows.mjs): the forced cells as the released guide's own fill.sh prints them over the translation cf6f6c3db3bd2b56… (all of the seat's roots in one cut). By AI agents, Wed Nov 11 2026. No macro, syntax, notation, axiom, sorry.
-/
import Derived.Test.YtclggeicpdkkdaaChecked
import GoSem.Claim
import GoSem.ClaimJoined
import GoSem.ClaimMapViews
import Derived.JoinedTies
import Derived.KernelRfl
namespace Go.Proofs.Ytclggeicpdkkdaa
/- THE CELL 'sum', in the pinned program and in every row, IS THE sha256 OF THE DUMP (.gsa) THAT YtclggeicpdkkdaaProg.lean LOADS. Nothing in Lean hashes anything: it is a label: what it is worth is what the hold of that sum in a sandbox is worth. -/
noncomputable def Try.pinned : Pinned := { name := "ytclggeicpdkkdaa", sum := "cf6f6c3db3bd2b56f4128aee4f35eeb4c7d055933e4ca78ccbc99055924d5b97", checked := Try.checked }
namespace Rows
def none {H : Type} : Left H := { results := [], args := [] }

/-- 'caravanlaw04.BalePuts': WHATEVER THE INPUT: true; the input reads as it did. -/
def balePutsSpec : ChangeSpec := { name := "balePuts", fn := fun _ => fun
  | [d1, d2, d3, d4] => { results := [.lit (.bool true)], args := [d1, d2, d3, d4] }
  | _ => none }
def balePutsRow : OpenClaim := { program := "ytclggeicpdkkdaa", sum := "cf6f6c3db3bd2b56f4128aee4f35eeb4c7d055933e4ca78ccbc99055924d5b97", func := "caravan/caravanlaw04.BalePuts", spec := "balePuts", apart := false }
def BalePutsSaid : Prop := balePutsRow.holds Try.pinned (OpenSpec.ofChange balePutsSpec)

/-- ITS FALSE NEIGHBOUR: 'it returns false'. Refute it at one input. -/
def balePutsWrong : ChangeSpec := { name := "balePuts", fn := fun _ => fun
  | [d1, d2, d3, d4] => { results := [.lit (.bool false)], args := [d1, d2, d3, d4] }
  | _ => none }
def BalePutsWrongFalsely : Prop := balePutsRow.holds Try.pinned (OpenSpec.ofChange balePutsWrong)

/-- 'caravanlaw04.BaleBack': WHATEVER THE INPUT: true; the input reads as it did. -/
def baleBackSpec : ChangeSpec := { name := "baleBack", fn := fun _ => fun
  | [d1, d2, d3, d4, d5] => { results := [.lit (.bool true)], args := [d1, d2, d3, d4, d5] }
  | _ => none }
def baleBackRow : OpenClaim := { program := "ytclggeicpdkkdaa", sum := "cf6f6c3db3bd2b56f4128aee4f35eeb4c7d055933e4ca78ccbc99055924d5b97", func := "caravan/caravanlaw04.BaleBack", spec := "baleBack", apart := false }
def BaleBackSaid : Prop := baleBackRow.holds Try.pinned (OpenSpec.ofChange baleBackSpec)

/-- ITS FALSE NEIGHBOUR: 'it returns false'. Refute it at one input. -/
def baleBackWrong : ChangeSpec := { name := "baleBack", fn := fun _ => fun
  | [d1, d2, d3, d4, d5] => { results := [.lit (.bool false)], args := [d1, d2, d3, d4, d5] }
  | _ => none }
def BaleBackWrongFalsely : Prop := baleBackRow.holds Try.pinned (OpenSpec.ofChange baleBackWrong)

/-- 'caravanlaw04.BaleOne': WHATEVER THE INPUT: true; the input reads as it did. -/
def baleOneSpec : ChangeSpec := { name := "baleOne", fn := fun _ => fun
  | [d] => { results := [.lit (.bool true)], args := [d] }
  | _ => none }
def baleOneRow : OpenClaim := { program := "ytclggeicpdkkdaa", sum := "cf6f6c3db3bd2b56f4128aee4f35eeb4c7d055933e4ca78ccbc99055924d5b97", func := "caravan/caravanlaw04.BaleOne", spec := "baleOne", apart := false }
def BaleOneSaid : Prop := baleOneRow.holds Try.pinned (OpenSpec.ofChange baleOneSpec)

/-- ITS FALSE NEIGHBOUR: 'it returns false'. Refute it at one input. -/
def baleOneWrong : ChangeSpec := { name := "baleOne", fn := fun _ => fun
  | [d] => { results := [.lit (.bool false)], args := [d] }
  | _ => none }
def BaleOneWrongFalsely : Prop := baleOneRow.holds Try.pinned (OpenSpec.ofChange baleOneWrong)

/-- 'caravanlaw04.BaleStays': WHATEVER THE INPUT: true; the input reads as it did. -/
def baleStaysSpec : ChangeSpec := { name := "baleStays", fn := fun _ => fun
  | [d1, d2] => { results := [.lit (.bool true)], args := [d1, d2] }
  | _ => none }
def baleStaysRow : OpenClaim := { program := "ytclggeicpdkkdaa", sum := "cf6f6c3db3bd2b56f4128aee4f35eeb4c7d055933e4ca78ccbc99055924d5b97", func := "caravan/caravanlaw04.BaleStays", spec := "baleStays", apart := false }
def BaleStaysSaid : Prop := baleStaysRow.holds Try.pinned (OpenSpec.ofChange baleStaysSpec)

/-- ITS FALSE NEIGHBOUR: 'it returns false'. Refute it at one input. -/
def baleStaysWrong : ChangeSpec := { name := "baleStays", fn := fun _ => fun
  | [d1, d2] => { results := [.lit (.bool false)], args := [d1, d2] }
  | _ => none }
def BaleStaysWrongFalsely : Prop := baleStaysRow.holds Try.pinned (OpenSpec.ofChange baleStaysWrong)

/- THE SECOND FORM. 'bulk': how many values and letters a reading holds, each counted each time it is reached (what is shared counts as often as it is met; a slice's spare places count too). A statement '..UptoSaid' is the law's where the arguments, and the package variables that the reading takes, are together of bulk at most 1048576: NARROWER than '..Said'. Prove '..Said' where nothing that the law and all that it calls make is longer than what came in: it says more and counts as full. Else prove '..UptoSaid'. A law counts once. -/
mutual
def uptoBulk {H : Type} : DataW H → Nat
  | .lit (.string bytes) => bytes.length + 1
  | .lit _ => 1
  | .nil => 1
  | .ptr d => uptoBulk d + 1
  | .slice elems spare => uptoBulkAll elems + uptoBulkAll spare + 1
  | .agg parts => uptoBulkAll parts + 1
  | .iface _ d => uptoBulk d + 1
  | .map entries => uptoBulkEntries entries + 1
  | .held _ => 1
def uptoBulkAll {H : Type} : List (DataW H) → Nat
  | [] => 0
  | d :: r => uptoBulk d + uptoBulkAll r
def uptoBulkEntries {H : Type} : List (Lit × DataW H) → Nat
  | [] => 0
  | x :: r => uptoBulkEntry x + uptoBulkEntries r
def uptoBulkEntry {H : Type} : Lit × DataW H → Nat
  | (.string bytes, d) => bytes.length + uptoBulk d + 1
  | (_, d) => uptoBulk d + 1
 end
def uptoSmall : (H : Type) → List (DataW H) → Bool := fun _ ds => decide (uptoBulkAll ds ≤ 1048576)
def OpenSpec.upto (s : _root_.Go.ChangeSpec) : _root_.Go.OpenSpec := { _root_.Go.OpenSpec.ofChange s with cond := some uptoSmall }

/-- 'caravanlaw04.BalePuts', WHERE WHAT IT READS IS OF BULK AT MOST 1048576: true; the input reads as it did. -/
def balePutsUptoRow : OpenClaim := { program := "ytclggeicpdkkdaa", sum := "cf6f6c3db3bd2b56f4128aee4f35eeb4c7d055933e4ca78ccbc99055924d5b97", func := "caravan/caravanlaw04.BalePuts", spec := "balePuts", apart := false, narrowed := true }
def BalePutsUptoSaid : Prop := balePutsUptoRow.holds Try.pinned (OpenSpec.upto balePutsSpec)

/-- 'caravanlaw04.BaleBack', WHERE WHAT IT READS IS OF BULK AT MOST 1048576: true; the input reads as it did. -/
def baleBackUptoRow : OpenClaim := { program := "ytclggeicpdkkdaa", sum := "cf6f6c3db3bd2b56f4128aee4f35eeb4c7d055933e4ca78ccbc99055924d5b97", func := "caravan/caravanlaw04.BaleBack", spec := "baleBack", apart := false, narrowed := true }
def BaleBackUptoSaid : Prop := baleBackUptoRow.holds Try.pinned (OpenSpec.upto baleBackSpec)

/-- 'caravanlaw04.BaleOne', WHERE WHAT IT READS IS OF BULK AT MOST 1048576: true; the input reads as it did. -/
def baleOneUptoRow : OpenClaim := { program := "ytclggeicpdkkdaa", sum := "cf6f6c3db3bd2b56f4128aee4f35eeb4c7d055933e4ca78ccbc99055924d5b97", func := "caravan/caravanlaw04.BaleOne", spec := "baleOne", apart := false, narrowed := true }
def BaleOneUptoSaid : Prop := baleOneUptoRow.holds Try.pinned (OpenSpec.upto baleOneSpec)

/-- 'caravanlaw04.BaleStays', WHERE WHAT IT READS IS OF BULK AT MOST 1048576: true; the input reads as it did. -/
def baleStaysUptoRow : OpenClaim := { program := "ytclggeicpdkkdaa", sum := "cf6f6c3db3bd2b56f4128aee4f35eeb4c7d055933e4ca78ccbc99055924d5b97", func := "caravan/caravanlaw04.BaleStays", spec := "baleStays", apart := false, narrowed := true }
def BaleStaysUptoSaid : Prop := baleStaysUptoRow.holds Try.pinned (OpenSpec.upto baleStaysSpec)

end Rows
end Go.Proofs.Ytclggeicpdkkdaa
