/-
  DERIVED. GIVEN WITH THE SEED: THE CARDS: each row of YtjdhcanblpifcaaDoorRows.lean that lists a variable, with what it lists TIED to the program's text (the seventh form; the later family's looks); each row that meets fmt, with fmt's text TOLD by the authors' own Lean function (tested against real Go, not proved from fmt's source: count such statements apart). THE CARD IS WHAT COUNTS. Prove the row's statement (the work); the ties are given (YtjdhcanblpifcaaDoorTie.lean); close each card by the builder's one call (the guide's Derived/Test/ToyasCard.lean, 'card_holds'). Laid BY PROGRAM, IN A SANDBOX (cutbox-door.mjs). By AI agents, Wed Nov 11 2026. No macro, syntax, notation, axiom, sorry.
-/
import Derived.Test.YtjdhcanblpifcaaDoorRows
import GoSem.ClaimSeven
namespace Go.Proofs.YtjdhcanblpifcaaDoor
namespace Rows

/-- THE TIED CARD OF 'caravanlaw09.MerkleReads'. -/
def merkleReadsCard : Claim7 := { stood := { row := merkleReadsRow, standIns := [], harness := (true, "ff6b18ebeceeff26ec0eb8f4bee0157f718d73823d25d9197319303850b35b64"), looks := false }, kinds := [], alts := [], laidByText := true, laidKinds := [.data, .data], laidTests := true, laidLooks := .later }
def MerkleReadsCardSaid : Prop := Claim7.holds Tryd.pinned (.plain (OpenSpec.ofChange merkleReadsSpec)) merkleReadsCard

/-- THE TIED CARD OF 'caravanlaw09.MerkleBuilds'. -/
def merkleBuildsCard : Claim7 := { stood := { row := merkleBuildsRow, standIns := [], harness := (true, "ff6b18ebeceeff26ec0eb8f4bee0157f718d73823d25d9197319303850b35b64"), looks := false }, kinds := [], alts := [], laidByText := true, laidKinds := [.data, .data], laidTests := true, laidLooks := .later }
def MerkleBuildsCardSaid : Prop := Claim7.holds Tryd.pinned (.plain (OpenSpec.ofChange merkleBuildsSpec)) merkleBuildsCard

/-- THE TIED CARD OF 'caravanlaw09.MerkleDepth'. -/
def merkleDepthCard : Claim7 := { stood := { row := merkleDepthRow, standIns := [], harness := (true, "ff6b18ebeceeff26ec0eb8f4bee0157f718d73823d25d9197319303850b35b64"), looks := false }, kinds := [], alts := [], laidByText := true, laidKinds := [.data, .data], laidTests := true, laidLooks := .later }
def MerkleDepthCardSaid : Prop := Claim7.holds Tryd.pinned (.plain (OpenSpec.ofChange merkleDepthSpec)) merkleDepthCard

/-- THE TIED CARD OF 'caravanlaw10.WeavePlays'. -/
def weavePlaysCard : Claim7 := { stood := { row := weavePlaysRow, standIns := [], harness := (true, "ff6b18ebeceeff26ec0eb8f4bee0157f718d73823d25d9197319303850b35b64"), looks := false }, kinds := [], alts := [], laidByText := true, laidKinds := [.data, .data], laidTests := true, laidLooks := .later }
def WeavePlaysCardSaid : Prop := Claim7.holds Tryd.pinned (.plain (OpenSpec.ofChange weavePlaysSpec)) weavePlaysCard

/-- THE TIED CARD OF 'caravanlaw10.WeaveBad'. -/
def weaveBadCard : Claim7 := { stood := { row := weaveBadRow, standIns := [], harness := (true, "ff6b18ebeceeff26ec0eb8f4bee0157f718d73823d25d9197319303850b35b64"), looks := false }, kinds := [], alts := [], laidByText := true, laidKinds := [.data, .data], laidTests := true, laidLooks := .later }
def WeaveBadCardSaid : Prop := Claim7.holds Tryd.pinned (.plain (OpenSpec.ofChange weaveBadSpec)) weaveBadCard

/-- THE SECOND FORM's CARD OF 'caravanlaw09.MerkleReads'. -/
def merkleReadsUptoCard : Claim7 := { stood := { row := merkleReadsUptoRow, standIns := [], harness := (true, "ff6b18ebeceeff26ec0eb8f4bee0157f718d73823d25d9197319303850b35b64"), looks := false }, kinds := [], alts := [], laidByText := true, laidKinds := [.data, .data], laidTests := true, laidLooks := .later }
def MerkleReadsUptoCardSaid : Prop := Claim7.holds Tryd.pinned (.plain (OpenSpec.upto merkleReadsSpec)) merkleReadsUptoCard

/-- THE SECOND FORM's CARD OF 'caravanlaw09.MerkleBuilds'. -/
def merkleBuildsUptoCard : Claim7 := { stood := { row := merkleBuildsUptoRow, standIns := [], harness := (true, "ff6b18ebeceeff26ec0eb8f4bee0157f718d73823d25d9197319303850b35b64"), looks := false }, kinds := [], alts := [], laidByText := true, laidKinds := [.data, .data], laidTests := true, laidLooks := .later }
def MerkleBuildsUptoCardSaid : Prop := Claim7.holds Tryd.pinned (.plain (OpenSpec.upto merkleBuildsSpec)) merkleBuildsUptoCard

/-- THE SECOND FORM's CARD OF 'caravanlaw09.MerkleDepth'. -/
def merkleDepthUptoCard : Claim7 := { stood := { row := merkleDepthUptoRow, standIns := [], harness := (true, "ff6b18ebeceeff26ec0eb8f4bee0157f718d73823d25d9197319303850b35b64"), looks := false }, kinds := [], alts := [], laidByText := true, laidKinds := [.data, .data], laidTests := true, laidLooks := .later }
def MerkleDepthUptoCardSaid : Prop := Claim7.holds Tryd.pinned (.plain (OpenSpec.upto merkleDepthSpec)) merkleDepthUptoCard

/-- THE SECOND FORM's CARD OF 'caravanlaw10.WeavePlays'. -/
def weavePlaysUptoCard : Claim7 := { stood := { row := weavePlaysUptoRow, standIns := [], harness := (true, "ff6b18ebeceeff26ec0eb8f4bee0157f718d73823d25d9197319303850b35b64"), looks := false }, kinds := [], alts := [], laidByText := true, laidKinds := [.data, .data], laidTests := true, laidLooks := .later }
def WeavePlaysUptoCardSaid : Prop := Claim7.holds Tryd.pinned (.plain (OpenSpec.upto weavePlaysSpec)) weavePlaysUptoCard

/-- THE SECOND FORM's CARD OF 'caravanlaw10.WeaveBad'. -/
def weaveBadUptoCard : Claim7 := { stood := { row := weaveBadUptoRow, standIns := [], harness := (true, "ff6b18ebeceeff26ec0eb8f4bee0157f718d73823d25d9197319303850b35b64"), looks := false }, kinds := [], alts := [], laidByText := true, laidKinds := [.data, .data], laidTests := true, laidLooks := .later }
def WeaveBadUptoCardSaid : Prop := Claim7.holds Tryd.pinned (.plain (OpenSpec.upto weaveBadSpec)) weaveBadUptoCard
end Rows
end Go.Proofs.YtjdhcanblpifcaaDoor
