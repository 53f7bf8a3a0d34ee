/-
  DERIVED. GIVEN WITH THE SEED: THE CARDS: each row of YtblfekecmahagaaDoorRows.lean that lists a variable, with what it lists TIED to the program's text (the seventh form; the later family's looks); each row that meets fmt, with fmt's text TOLD by the authors' own Lean function (tested against real Go, not proved from fmt's source: count such statements apart). THE CARD IS WHAT COUNTS. Prove the row's statement (the work); the ties are given (YtblfekecmahagaaDoorTie.lean); close each card by the builder's one call (the guide's Derived/Test/ToyasCard.lean, 'card_holds'). Laid BY PROGRAM, IN A SANDBOX (cutbox-door.mjs). By AI agents, Wed Nov 11 2026. No macro, syntax, notation, axiom, sorry.
-/
import Derived.Test.YtblfekecmahagaaDoorRows
import GoSem.ClaimSeven
namespace Go.Proofs.YtblfekecmahagaaDoor
namespace Rows

/-- THE TIED CARD OF 'caravanlaw23.ReputePlays'. -/
def reputePlaysCard : Claim7 := { stood := { row := reputePlaysRow, standIns := [], harness := (true, "877449d91a1caef9f2b384385c97708df88f2a04f32e7a5f8020966923affb9c"), looks := false }, kinds := [], alts := [], laidByText := true, laidKinds := [.data, .data], laidTests := true, laidLooks := .later }
def ReputePlaysCardSaid : Prop := Claim7.holds Tryd.pinned (.plain (OpenSpec.ofChange reputePlaysSpec)) reputePlaysCard

/-- THE TIED CARD OF 'caravanlaw23.ReputeJust'. -/
def reputeJustCard : Claim7 := { stood := { row := reputeJustRow, standIns := [], harness := (true, "877449d91a1caef9f2b384385c97708df88f2a04f32e7a5f8020966923affb9c"), looks := false }, kinds := [], alts := [], laidByText := true, laidKinds := [.data, .data], laidTests := true, laidLooks := .later }
def ReputeJustCardSaid : Prop := Claim7.holds Tryd.pinned (.plain (OpenSpec.ofChange reputeJustSpec)) reputeJustCard

/-- THE TIED CARD OF 'caravanlaw23.ReputeWaits'. -/
def reputeWaitsCard : Claim7 := { stood := { row := reputeWaitsRow, standIns := [], harness := (true, "877449d91a1caef9f2b384385c97708df88f2a04f32e7a5f8020966923affb9c"), looks := false }, kinds := [], alts := [], laidByText := true, laidKinds := [.data, .data], laidTests := true, laidLooks := .later }
def ReputeWaitsCardSaid : Prop := Claim7.holds Tryd.pinned (.plain (OpenSpec.ofChange reputeWaitsSpec)) reputeWaitsCard

/-- THE TIED CARD OF 'caravanlaw23.ReputeFirst'. -/
def reputeFirstCard : Claim7 := { stood := { row := reputeFirstRow, standIns := [], harness := (true, "877449d91a1caef9f2b384385c97708df88f2a04f32e7a5f8020966923affb9c"), looks := false }, kinds := [], alts := [], laidByText := true, laidKinds := [.data, .data], laidTests := true, laidLooks := .later }
def ReputeFirstCardSaid : Prop := Claim7.holds Tryd.pinned (.plain (OpenSpec.ofChange reputeFirstSpec)) reputeFirstCard

/-- THE TIED CARD OF 'caravanlaw23.ReputeBounds'. -/
def reputeBoundsCard : Claim7 := { stood := { row := reputeBoundsRow, standIns := [], harness := (true, "877449d91a1caef9f2b384385c97708df88f2a04f32e7a5f8020966923affb9c"), looks := false }, kinds := [], alts := [], laidByText := true, laidKinds := [.data, .data], laidTests := true, laidLooks := .later }
def ReputeBoundsCardSaid : Prop := Claim7.holds Tryd.pinned (.plain (OpenSpec.ofChange reputeBoundsSpec)) reputeBoundsCard

/-- THE SECOND FORM's CARD OF 'caravanlaw23.ReputePlays'. -/
def reputePlaysUptoCard : Claim7 := { stood := { row := reputePlaysUptoRow, standIns := [], harness := (true, "877449d91a1caef9f2b384385c97708df88f2a04f32e7a5f8020966923affb9c"), looks := false }, kinds := [], alts := [], laidByText := true, laidKinds := [.data, .data], laidTests := true, laidLooks := .later }
def ReputePlaysUptoCardSaid : Prop := Claim7.holds Tryd.pinned (.plain (OpenSpec.upto reputePlaysSpec)) reputePlaysUptoCard

/-- THE SECOND FORM's CARD OF 'caravanlaw23.ReputeJust'. -/
def reputeJustUptoCard : Claim7 := { stood := { row := reputeJustUptoRow, standIns := [], harness := (true, "877449d91a1caef9f2b384385c97708df88f2a04f32e7a5f8020966923affb9c"), looks := false }, kinds := [], alts := [], laidByText := true, laidKinds := [.data, .data], laidTests := true, laidLooks := .later }
def ReputeJustUptoCardSaid : Prop := Claim7.holds Tryd.pinned (.plain (OpenSpec.upto reputeJustSpec)) reputeJustUptoCard

/-- THE SECOND FORM's CARD OF 'caravanlaw23.ReputeWaits'. -/
def reputeWaitsUptoCard : Claim7 := { stood := { row := reputeWaitsUptoRow, standIns := [], harness := (true, "877449d91a1caef9f2b384385c97708df88f2a04f32e7a5f8020966923affb9c"), looks := false }, kinds := [], alts := [], laidByText := true, laidKinds := [.data, .data], laidTests := true, laidLooks := .later }
def ReputeWaitsUptoCardSaid : Prop := Claim7.holds Tryd.pinned (.plain (OpenSpec.upto reputeWaitsSpec)) reputeWaitsUptoCard

/-- THE SECOND FORM's CARD OF 'caravanlaw23.ReputeFirst'. -/
def reputeFirstUptoCard : Claim7 := { stood := { row := reputeFirstUptoRow, standIns := [], harness := (true, "877449d91a1caef9f2b384385c97708df88f2a04f32e7a5f8020966923affb9c"), looks := false }, kinds := [], alts := [], laidByText := true, laidKinds := [.data, .data], laidTests := true, laidLooks := .later }
def ReputeFirstUptoCardSaid : Prop := Claim7.holds Tryd.pinned (.plain (OpenSpec.upto reputeFirstSpec)) reputeFirstUptoCard

/-- THE SECOND FORM's CARD OF 'caravanlaw23.ReputeBounds'. -/
def reputeBoundsUptoCard : Claim7 := { stood := { row := reputeBoundsUptoRow, standIns := [], harness := (true, "877449d91a1caef9f2b384385c97708df88f2a04f32e7a5f8020966923affb9c"), looks := false }, kinds := [], alts := [], laidByText := true, laidKinds := [.data, .data], laidTests := true, laidLooks := .later }
def ReputeBoundsUptoCardSaid : Prop := Claim7.holds Tryd.pinned (.plain (OpenSpec.upto reputeBoundsSpec)) reputeBoundsUptoCard
end Rows
end Go.Proofs.YtblfekecmahagaaDoor
