/-
  No cell of these rows narrows 'for every input' (looked for: loops, veiled, ifaces, maps, wideKeys, modest, calm, conditions, laid).
  DERIVED. THE GIVEN ROWS OF THIS SEAT. 10 by the template 'for every input the law returns true; each argument reads behind the call as it read before'; 0 by the template 'total and deterministic' (their statements: YtbkknhlagohhhaaTotals.lean).
  GIVEN WITH THE SEED: the statements are not yours to turn. If you find one false, say at which input.
  Laid BY PROGRAM, IN A SANDBOX (cutbox-rows.mjs): the forced cells as the released guide's own fill.sh prints them over the translation 6f3a28b60d1350e8… (all of the seat's roots in one cut). By AI agents, Wed Nov 11 2026. No macro, syntax, notation, axiom, sorry.
-/
import Derived.Test.YtbkknhlagohhhaaChecked
import GoSem.Claim
import GoSem.ClaimJoined
import GoSem.ClaimMapViews
import Derived.JoinedTies
import Derived.KernelRfl
namespace Go.Proofs.Ytbkknhlagohhhaa
/- THE CELL 'sum', in the pinned program and in every row, IS THE sha256 OF THE DUMP (.gsa) THAT YtbkknhlagohhhaaProg.lean LOADS. Nothing in Lean hashes anything: it is a label: what it is worth is what the hold of that sum in a sandbox is worth. -/
noncomputable def Try.pinned : Pinned := { name := "ytbkknhlagohhhaa", sum := "6f3a28b60d1350e8e47f40b5dc8f260bace87604045c7d18e80175cb788852f5", checked := Try.checked }
namespace Rows
def none {H : Type} : Left H := { results := [], args := [] }

/-- 'caravanlaw17.LetterChecks': WHATEVER THE INPUT: true; the input reads as it did. -/
def letterChecksSpec : ChangeSpec := { name := "letterChecks", fn := fun _ => fun
  | [d] => { results := [.lit (.bool true)], args := [d] }
  | _ => none }
def letterChecksRow : OpenClaim := { program := "ytbkknhlagohhhaa", sum := "6f3a28b60d1350e8e47f40b5dc8f260bace87604045c7d18e80175cb788852f5", func := "caravan/caravanlaw17.LetterChecks", spec := "letterChecks", apart := false }
def LetterChecksSaid : Prop := letterChecksRow.holds Try.pinned (OpenSpec.ofChange letterChecksSpec)

/-- ITS FALSE NEIGHBOUR: 'it returns false'. Refute it at one input. -/
def letterChecksWrong : ChangeSpec := { name := "letterChecks", fn := fun _ => fun
  | [d] => { results := [.lit (.bool false)], args := [d] }
  | _ => none }
def LetterChecksWrongFalsely : Prop := letterChecksRow.holds Try.pinned (OpenSpec.ofChange letterChecksWrong)

/-- 'caravanlaw17.LetterReads': WHATEVER THE INPUT: true; the input reads as it did. -/
def letterReadsSpec : ChangeSpec := { name := "letterReads", fn := fun _ => fun
  | [d] => { results := [.lit (.bool true)], args := [d] }
  | _ => none }
def letterReadsRow : OpenClaim := { program := "ytbkknhlagohhhaa", sum := "6f3a28b60d1350e8e47f40b5dc8f260bace87604045c7d18e80175cb788852f5", func := "caravan/caravanlaw17.LetterReads", spec := "letterReads", apart := false }
def LetterReadsSaid : Prop := letterReadsRow.holds Try.pinned (OpenSpec.ofChange letterReadsSpec)

/-- ITS FALSE NEIGHBOUR: 'it returns false'. Refute it at one input. -/
def letterReadsWrong : ChangeSpec := { name := "letterReads", fn := fun _ => fun
  | [d] => { results := [.lit (.bool false)], args := [d] }
  | _ => none }
def LetterReadsWrongFalsely : Prop := letterReadsRow.holds Try.pinned (OpenSpec.ofChange letterReadsWrong)

/-- 'caravanlaw17.LetterReplies': WHATEVER THE INPUT: true; the input reads as it did. -/
def letterRepliesSpec : ChangeSpec := { name := "letterReplies", fn := fun _ => fun
  | [d1, d2] => { results := [.lit (.bool true)], args := [d1, d2] }
  | _ => none }
def letterRepliesRow : OpenClaim := { program := "ytbkknhlagohhhaa", sum := "6f3a28b60d1350e8e47f40b5dc8f260bace87604045c7d18e80175cb788852f5", func := "caravan/caravanlaw17.LetterReplies", spec := "letterReplies", apart := false }
def LetterRepliesSaid : Prop := letterRepliesRow.holds Try.pinned (OpenSpec.ofChange letterRepliesSpec)

/-- ITS FALSE NEIGHBOUR: 'it returns false'. Refute it at one input. -/
def letterRepliesWrong : ChangeSpec := { name := "letterReplies", fn := fun _ => fun
  | [d1, d2] => { results := [.lit (.bool false)], args := [d1, d2] }
  | _ => none }
def LetterRepliesWrongFalsely : Prop := letterRepliesRow.holds Try.pinned (OpenSpec.ofChange letterRepliesWrong)

/-- 'caravanlaw17.LetterApart': WHATEVER THE INPUT: true; the input reads as it did. -/
def letterApartSpec : ChangeSpec := { name := "letterApart", fn := fun _ => fun
  | [d1, d2] => { results := [.lit (.bool true)], args := [d1, d2] }
  | _ => none }
def letterApartRow : OpenClaim := { program := "ytbkknhlagohhhaa", sum := "6f3a28b60d1350e8e47f40b5dc8f260bace87604045c7d18e80175cb788852f5", func := "caravan/caravanlaw17.LetterApart", spec := "letterApart", apart := false }
def LetterApartSaid : Prop := letterApartRow.holds Try.pinned (OpenSpec.ofChange letterApartSpec)

/-- ITS FALSE NEIGHBOUR: 'it returns false'. Refute it at one input. -/
def letterApartWrong : ChangeSpec := { name := "letterApart", fn := fun _ => fun
  | [d1, d2] => { results := [.lit (.bool false)], args := [d1, d2] }
  | _ => none }
def LetterApartWrongFalsely : Prop := letterApartRow.holds Try.pinned (OpenSpec.ofChange letterApartWrong)

/-- 'caravanlaw17.LetterCut': WHATEVER THE INPUT: true; the input reads as it did. -/
def letterCutSpec : ChangeSpec := { name := "letterCut", fn := fun _ => fun
  | [d1, d2] => { results := [.lit (.bool true)], args := [d1, d2] }
  | _ => none }
def letterCutRow : OpenClaim := { program := "ytbkknhlagohhhaa", sum := "6f3a28b60d1350e8e47f40b5dc8f260bace87604045c7d18e80175cb788852f5", func := "caravan/caravanlaw17.LetterCut", spec := "letterCut", apart := false }
def LetterCutSaid : Prop := letterCutRow.holds Try.pinned (OpenSpec.ofChange letterCutSpec)

/-- ITS FALSE NEIGHBOUR: 'it returns false'. Refute it at one input. -/
def letterCutWrong : ChangeSpec := { name := "letterCut", fn := fun _ => fun
  | [d1, d2] => { results := [.lit (.bool false)], args := [d1, d2] }
  | _ => none }
def LetterCutWrongFalsely : Prop := letterCutRow.holds Try.pinned (OpenSpec.ofChange letterCutWrong)

/-- 'caravanlaw18.MeshPlays': WHATEVER THE INPUT: true; the input reads as it did. -/
def meshPlaysSpec : ChangeSpec := { name := "meshPlays", fn := fun _ => fun
  | [d1, d2] => { results := [.lit (.bool true)], args := [d1, d2] }
  | _ => none }
def meshPlaysRow : OpenClaim := { program := "ytbkknhlagohhhaa", sum := "6f3a28b60d1350e8e47f40b5dc8f260bace87604045c7d18e80175cb788852f5", func := "caravan/caravanlaw18.MeshPlays", spec := "meshPlays", apart := false }
def MeshPlaysSaid : Prop := meshPlaysRow.holds Try.pinned (OpenSpec.ofChange meshPlaysSpec)

/-- ITS FALSE NEIGHBOUR: 'it returns false'. Refute it at one input. -/
def meshPlaysWrong : ChangeSpec := { name := "meshPlays", fn := fun _ => fun
  | [d1, d2] => { results := [.lit (.bool false)], args := [d1, d2] }
  | _ => none }
def MeshPlaysWrongFalsely : Prop := meshPlaysRow.holds Try.pinned (OpenSpec.ofChange meshPlaysWrong)

/-- 'caravanlaw18.MeshFair': WHATEVER THE INPUT: true; the input reads as it did. -/
def meshFairSpec : ChangeSpec := { name := "meshFair", fn := fun _ => fun
  | [d1, d2] => { results := [.lit (.bool true)], args := [d1, d2] }
  | _ => none }
def meshFairRow : OpenClaim := { program := "ytbkknhlagohhhaa", sum := "6f3a28b60d1350e8e47f40b5dc8f260bace87604045c7d18e80175cb788852f5", func := "caravan/caravanlaw18.MeshFair", spec := "meshFair", apart := false }
def MeshFairSaid : Prop := meshFairRow.holds Try.pinned (OpenSpec.ofChange meshFairSpec)

/-- ITS FALSE NEIGHBOUR: 'it returns false'. Refute it at one input. -/
def meshFairWrong : ChangeSpec := { name := "meshFair", fn := fun _ => fun
  | [d1, d2] => { results := [.lit (.bool false)], args := [d1, d2] }
  | _ => none }
def MeshFairWrongFalsely : Prop := meshFairRow.holds Try.pinned (OpenSpec.ofChange meshFairWrong)

/-- 'caravanlaw18.MeshBound': WHATEVER THE INPUT: true; the input reads as it did. -/
def meshBoundSpec : ChangeSpec := { name := "meshBound", fn := fun _ => fun
  | [d1, d2] => { results := [.lit (.bool true)], args := [d1, d2] }
  | _ => none }
def meshBoundRow : OpenClaim := { program := "ytbkknhlagohhhaa", sum := "6f3a28b60d1350e8e47f40b5dc8f260bace87604045c7d18e80175cb788852f5", func := "caravan/caravanlaw18.MeshBound", spec := "meshBound", apart := false }
def MeshBoundSaid : Prop := meshBoundRow.holds Try.pinned (OpenSpec.ofChange meshBoundSpec)

/-- ITS FALSE NEIGHBOUR: 'it returns false'. Refute it at one input. -/
def meshBoundWrong : ChangeSpec := { name := "meshBound", fn := fun _ => fun
  | [d1, d2] => { results := [.lit (.bool false)], args := [d1, d2] }
  | _ => none }
def MeshBoundWrongFalsely : Prop := meshBoundRow.holds Try.pinned (OpenSpec.ofChange meshBoundWrong)

/-- 'caravanlaw18.MeshCast': WHATEVER THE INPUT: true; the input reads as it did. -/
def meshCastSpec : ChangeSpec := { name := "meshCast", fn := fun _ => fun
  | [d1, d2, d3] => { results := [.lit (.bool true)], args := [d1, d2, d3] }
  | _ => none }
def meshCastRow : OpenClaim := { program := "ytbkknhlagohhhaa", sum := "6f3a28b60d1350e8e47f40b5dc8f260bace87604045c7d18e80175cb788852f5", func := "caravan/caravanlaw18.MeshCast", spec := "meshCast", apart := false }
def MeshCastSaid : Prop := meshCastRow.holds Try.pinned (OpenSpec.ofChange meshCastSpec)

/-- ITS FALSE NEIGHBOUR: 'it returns false'. Refute it at one input. -/
def meshCastWrong : ChangeSpec := { name := "meshCast", fn := fun _ => fun
  | [d1, d2, d3] => { results := [.lit (.bool false)], args := [d1, d2, d3] }
  | _ => none }
def MeshCastWrongFalsely : Prop := meshCastRow.holds Try.pinned (OpenSpec.ofChange meshCastWrong)

/-- 'caravanlaw18.MeshOrder': WHATEVER THE INPUT: true; the input reads as it did. -/
def meshOrderSpec : ChangeSpec := { name := "meshOrder", fn := fun _ => fun
  | [d1, d2] => { results := [.lit (.bool true)], args := [d1, d2] }
  | _ => none }
def meshOrderRow : OpenClaim := { program := "ytbkknhlagohhhaa", sum := "6f3a28b60d1350e8e47f40b5dc8f260bace87604045c7d18e80175cb788852f5", func := "caravan/caravanlaw18.MeshOrder", spec := "meshOrder", apart := false }
def MeshOrderSaid : Prop := meshOrderRow.holds Try.pinned (OpenSpec.ofChange meshOrderSpec)

/-- ITS FALSE NEIGHBOUR: 'it returns false'. Refute it at one input. -/
def meshOrderWrong : ChangeSpec := { name := "meshOrder", fn := fun _ => fun
  | [d1, d2] => { results := [.lit (.bool false)], args := [d1, d2] }
  | _ => none }
def MeshOrderWrongFalsely : Prop := meshOrderRow.holds Try.pinned (OpenSpec.ofChange meshOrderWrong)

/- THE SECOND FORM. 'bulk': how many values and letters a reading holds, each counted each time it is reached (what is shared counts as often as it is met; a slice's spare places count too). A statement '..UptoSaid' is the law's where the arguments, and the package variables that the reading takes, are together of bulk at most 1048576: NARROWER than '..Said'. Prove '..Said' where nothing that the law and all that it calls make is longer than what came in: it says more and counts as full. Else prove '..UptoSaid'. A law counts once. -/
mutual
def uptoBulk {H : Type} : DataW H → Nat
  | .lit (.string bytes) => bytes.length + 1
  | .lit _ => 1
  | .nil => 1
  | .ptr d => uptoBulk d + 1
  | .slice elems spare => uptoBulkAll elems + uptoBulkAll spare + 1
  | .agg parts => uptoBulkAll parts + 1
  | .iface _ d => uptoBulk d + 1
  | .map entries => uptoBulkEntries entries + 1
  | .held _ => 1
def uptoBulkAll {H : Type} : List (DataW H) → Nat
  | [] => 0
  | d :: r => uptoBulk d + uptoBulkAll r
def uptoBulkEntries {H : Type} : List (Lit × DataW H) → Nat
  | [] => 0
  | x :: r => uptoBulkEntry x + uptoBulkEntries r
def uptoBulkEntry {H : Type} : Lit × DataW H → Nat
  | (.string bytes, d) => bytes.length + uptoBulk d + 1
  | (_, d) => uptoBulk d + 1
 end
def uptoSmall : (H : Type) → List (DataW H) → Bool := fun _ ds => decide (uptoBulkAll ds ≤ 1048576)
def OpenSpec.upto (s : _root_.Go.ChangeSpec) : _root_.Go.OpenSpec := { _root_.Go.OpenSpec.ofChange s with cond := some uptoSmall }

/-- 'caravanlaw17.LetterChecks', WHERE WHAT IT READS IS OF BULK AT MOST 1048576: true; the input reads as it did. -/
def letterChecksUptoRow : OpenClaim := { program := "ytbkknhlagohhhaa", sum := "6f3a28b60d1350e8e47f40b5dc8f260bace87604045c7d18e80175cb788852f5", func := "caravan/caravanlaw17.LetterChecks", spec := "letterChecks", apart := false, narrowed := true }
def LetterChecksUptoSaid : Prop := letterChecksUptoRow.holds Try.pinned (OpenSpec.upto letterChecksSpec)

/-- 'caravanlaw17.LetterReads', WHERE WHAT IT READS IS OF BULK AT MOST 1048576: true; the input reads as it did. -/
def letterReadsUptoRow : OpenClaim := { program := "ytbkknhlagohhhaa", sum := "6f3a28b60d1350e8e47f40b5dc8f260bace87604045c7d18e80175cb788852f5", func := "caravan/caravanlaw17.LetterReads", spec := "letterReads", apart := false, narrowed := true }
def LetterReadsUptoSaid : Prop := letterReadsUptoRow.holds Try.pinned (OpenSpec.upto letterReadsSpec)

/-- 'caravanlaw17.LetterReplies', WHERE WHAT IT READS IS OF BULK AT MOST 1048576: true; the input reads as it did. -/
def letterRepliesUptoRow : OpenClaim := { program := "ytbkknhlagohhhaa", sum := "6f3a28b60d1350e8e47f40b5dc8f260bace87604045c7d18e80175cb788852f5", func := "caravan/caravanlaw17.LetterReplies", spec := "letterReplies", apart := false, narrowed := true }
def LetterRepliesUptoSaid : Prop := letterRepliesUptoRow.holds Try.pinned (OpenSpec.upto letterRepliesSpec)

/-- 'caravanlaw17.LetterApart', WHERE WHAT IT READS IS OF BULK AT MOST 1048576: true; the input reads as it did. -/
def letterApartUptoRow : OpenClaim := { program := "ytbkknhlagohhhaa", sum := "6f3a28b60d1350e8e47f40b5dc8f260bace87604045c7d18e80175cb788852f5", func := "caravan/caravanlaw17.LetterApart", spec := "letterApart", apart := false, narrowed := true }
def LetterApartUptoSaid : Prop := letterApartUptoRow.holds Try.pinned (OpenSpec.upto letterApartSpec)

/-- 'caravanlaw17.LetterCut', WHERE WHAT IT READS IS OF BULK AT MOST 1048576: true; the input reads as it did. -/
def letterCutUptoRow : OpenClaim := { program := "ytbkknhlagohhhaa", sum := "6f3a28b60d1350e8e47f40b5dc8f260bace87604045c7d18e80175cb788852f5", func := "caravan/caravanlaw17.LetterCut", spec := "letterCut", apart := false, narrowed := true }
def LetterCutUptoSaid : Prop := letterCutUptoRow.holds Try.pinned (OpenSpec.upto letterCutSpec)

/-- 'caravanlaw18.MeshPlays', WHERE WHAT IT READS IS OF BULK AT MOST 1048576: true; the input reads as it did. -/
def meshPlaysUptoRow : OpenClaim := { program := "ytbkknhlagohhhaa", sum := "6f3a28b60d1350e8e47f40b5dc8f260bace87604045c7d18e80175cb788852f5", func := "caravan/caravanlaw18.MeshPlays", spec := "meshPlays", apart := false, narrowed := true }
def MeshPlaysUptoSaid : Prop := meshPlaysUptoRow.holds Try.pinned (OpenSpec.upto meshPlaysSpec)

/-- 'caravanlaw18.MeshFair', WHERE WHAT IT READS IS OF BULK AT MOST 1048576: true; the input reads as it did. -/
def meshFairUptoRow : OpenClaim := { program := "ytbkknhlagohhhaa", sum := "6f3a28b60d1350e8e47f40b5dc8f260bace87604045c7d18e80175cb788852f5", func := "caravan/caravanlaw18.MeshFair", spec := "meshFair", apart := false, narrowed := true }
def MeshFairUptoSaid : Prop := meshFairUptoRow.holds Try.pinned (OpenSpec.upto meshFairSpec)

/-- 'caravanlaw18.MeshBound', WHERE WHAT IT READS IS OF BULK AT MOST 1048576: true; the input reads as it did. -/
def meshBoundUptoRow : OpenClaim := { program := "ytbkknhlagohhhaa", sum := "6f3a28b60d1350e8e47f40b5dc8f260bace87604045c7d18e80175cb788852f5", func := "caravan/caravanlaw18.MeshBound", spec := "meshBound", apart := false, narrowed := true }
def MeshBoundUptoSaid : Prop := meshBoundUptoRow.holds Try.pinned (OpenSpec.upto meshBoundSpec)

/-- 'caravanlaw18.MeshCast', WHERE WHAT IT READS IS OF BULK AT MOST 1048576: true; the input reads as it did. -/
def meshCastUptoRow : OpenClaim := { program := "ytbkknhlagohhhaa", sum := "6f3a28b60d1350e8e47f40b5dc8f260bace87604045c7d18e80175cb788852f5", func := "caravan/caravanlaw18.MeshCast", spec := "meshCast", apart := false, narrowed := true }
def MeshCastUptoSaid : Prop := meshCastUptoRow.holds Try.pinned (OpenSpec.upto meshCastSpec)

/-- 'caravanlaw18.MeshOrder', WHERE WHAT IT READS IS OF BULK AT MOST 1048576: true; the input reads as it did. -/
def meshOrderUptoRow : OpenClaim := { program := "ytbkknhlagohhhaa", sum := "6f3a28b60d1350e8e47f40b5dc8f260bace87604045c7d18e80175cb788852f5", func := "caravan/caravanlaw18.MeshOrder", spec := "meshOrder", apart := false, narrowed := true }
def MeshOrderUptoSaid : Prop := meshOrderUptoRow.holds Try.pinned (OpenSpec.upto meshOrderSpec)

end Rows
end Go.Proofs.Ytbkknhlagohhhaa
