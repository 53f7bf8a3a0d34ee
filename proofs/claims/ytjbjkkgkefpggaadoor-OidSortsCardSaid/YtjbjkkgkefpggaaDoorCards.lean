/-
  DERIVED. GIVEN WITH THE SEED: THE CARDS: each row of YtjbjkkgkefpggaaDoorRows.lean that lists a variable, with what it lists TIED to the program's text (the seventh form; the later family's looks); each row that meets fmt, with fmt's text TOLD by the authors' own Lean function (tested against real Go, not proved from fmt's source: count such statements apart). THE CARD IS WHAT COUNTS. Prove the row's statement (the work); the ties are given (YtjbjkkgkefpggaaDoorTie.lean); close each card by the builder's one call (the guide's Derived/Test/ToyasCard.lean, 'card_holds'). Laid BY PROGRAM, IN A SANDBOX (cutbox-door.mjs). By AI agents, Wed Nov 11 2026. No macro, syntax, notation, axiom, sorry.
-/
import Derived.Test.YtjbjkkgkefpggaaDoorRows
import GoSem.ClaimSeven
namespace Go.Proofs.YtjbjkkgkefpggaaDoor
namespace Rows

/-- THE TIED CARD OF 'caravanlaw01.HashOf'. -/
def hashOfCard : Claim7 := { stood := { row := hashOfRow, standIns := [], harness := (true, "a5e59ec0591c3b95fe593499ffa184dce194c006744ca651847a72305baa0470"), looks := false }, kinds := [], alts := [], laidByText := true, laidKinds := [.data, .data], laidTests := true, laidLooks := .later }
def HashOfCardSaid : Prop := Claim7.holds Tryd.pinned (.plain (OpenSpec.ofChange hashOfSpec)) hashOfCard

/-- THE TIED CARD OF 'caravanlaw01.HashParts'. -/
def hashPartsCard : Claim7 := { stood := { row := hashPartsRow, standIns := [], harness := (true, "a5e59ec0591c3b95fe593499ffa184dce194c006744ca651847a72305baa0470"), looks := false }, kinds := [], alts := [], laidByText := true, laidKinds := [.data, .data], laidTests := true, laidLooks := .later }
def HashPartsCardSaid : Prop := Claim7.holds Tryd.pinned (.plain (OpenSpec.ofChange hashPartsSpec)) hashPartsCard

/-- THE TIED CARD OF 'caravanlaw01.HashLong'. -/
def hashLongCard : Claim7 := { stood := { row := hashLongRow, standIns := [], harness := (true, "a5e59ec0591c3b95fe593499ffa184dce194c006744ca651847a72305baa0470"), looks := false }, kinds := [], alts := [], laidByText := true, laidKinds := [.data, .data], laidTests := true, laidLooks := .later }
def HashLongCardSaid : Prop := Claim7.holds Tryd.pinned (.plain (OpenSpec.ofChange hashLongSpec)) hashLongCard

/-- THE TIED CARD OF 'caravanlaw01.HashMore'. -/
def hashMoreCard : Claim7 := { stood := { row := hashMoreRow, standIns := [], harness := (true, "a5e59ec0591c3b95fe593499ffa184dce194c006744ca651847a72305baa0470"), looks := false }, kinds := [], alts := [], laidByText := true, laidKinds := [.data, .data], laidTests := true, laidLooks := .later }
def HashMoreCardSaid : Prop := Claim7.holds Tryd.pinned (.plain (OpenSpec.ofChange hashMoreSpec)) hashMoreCard

/-- THE TIED CARD OF 'caravanlaw02.OidNear'. -/
def oidNearCard : Claim7 := { stood := { row := oidNearRow, standIns := [], harness := (true, "a5e59ec0591c3b95fe593499ffa184dce194c006744ca651847a72305baa0470"), looks := false }, kinds := [], alts := [], laidByText := true, laidKinds := [.data, .data], laidTests := true, laidLooks := .later }
def OidNearCardSaid : Prop := Claim7.holds Tryd.pinned (.plain (OpenSpec.ofChange oidNearSpec)) oidNearCard

/-- THE TIED CARD OF 'caravanlaw02.OidDistance'. -/
def oidDistanceCard : Claim7 := { stood := { row := oidDistanceRow, standIns := [], harness := (true, "a5e59ec0591c3b95fe593499ffa184dce194c006744ca651847a72305baa0470"), looks := false }, kinds := [], alts := [], laidByText := true, laidKinds := [.data, .data], laidTests := true, laidLooks := .later }
def OidDistanceCardSaid : Prop := Claim7.holds Tryd.pinned (.plain (OpenSpec.ofChange oidDistanceSpec)) oidDistanceCard

/-- THE TIED CARD OF 'caravanlaw02.OidTexts'. -/
def oidTextsCard : Claim7 := { stood := { row := oidTextsRow, standIns := [], harness := (true, "a5e59ec0591c3b95fe593499ffa184dce194c006744ca651847a72305baa0470"), looks := false }, kinds := [], alts := [], laidByText := true, laidKinds := [.data, .data], laidTests := true, laidLooks := .later }
def OidTextsCardSaid : Prop := Claim7.holds Tryd.pinned (.plain (OpenSpec.ofChange oidTextsSpec)) oidTextsCard

/-- THE TIED CARD OF 'caravanlaw02.OidTakes'. -/
def oidTakesCard : Claim7 := { stood := { row := oidTakesRow, standIns := [], harness := (true, "a5e59ec0591c3b95fe593499ffa184dce194c006744ca651847a72305baa0470"), looks := false }, kinds := [], alts := [], laidByText := true, laidKinds := [.data, .data], laidTests := true, laidLooks := .later }
def OidTakesCardSaid : Prop := Claim7.holds Tryd.pinned (.plain (OpenSpec.ofChange oidTakesSpec)) oidTakesCard

/-- THE TIED CARD OF 'caravanlaw02.OidSorts'. -/
def oidSortsCard : Claim7 := { stood := { row := oidSortsRow, standIns := [], harness := (true, "a5e59ec0591c3b95fe593499ffa184dce194c006744ca651847a72305baa0470"), looks := false }, kinds := [], alts := [], laidByText := true, laidKinds := [.data, .data], laidTests := true, laidLooks := .later }
def OidSortsCardSaid : Prop := Claim7.holds Tryd.pinned (.plain (OpenSpec.ofChange oidSortsSpec)) oidSortsCard

/-- THE SECOND FORM's CARD OF 'caravanlaw01.HashOf'. -/
def hashOfUptoCard : Claim7 := { stood := { row := hashOfUptoRow, standIns := [], harness := (true, "a5e59ec0591c3b95fe593499ffa184dce194c006744ca651847a72305baa0470"), looks := false }, kinds := [], alts := [], laidByText := true, laidKinds := [.data, .data], laidTests := true, laidLooks := .later }
def HashOfUptoCardSaid : Prop := Claim7.holds Tryd.pinned (.plain (OpenSpec.upto hashOfSpec)) hashOfUptoCard

/-- THE SECOND FORM's CARD OF 'caravanlaw01.HashParts'. -/
def hashPartsUptoCard : Claim7 := { stood := { row := hashPartsUptoRow, standIns := [], harness := (true, "a5e59ec0591c3b95fe593499ffa184dce194c006744ca651847a72305baa0470"), looks := false }, kinds := [], alts := [], laidByText := true, laidKinds := [.data, .data], laidTests := true, laidLooks := .later }
def HashPartsUptoCardSaid : Prop := Claim7.holds Tryd.pinned (.plain (OpenSpec.upto hashPartsSpec)) hashPartsUptoCard

/-- THE SECOND FORM's CARD OF 'caravanlaw01.HashLong'. -/
def hashLongUptoCard : Claim7 := { stood := { row := hashLongUptoRow, standIns := [], harness := (true, "a5e59ec0591c3b95fe593499ffa184dce194c006744ca651847a72305baa0470"), looks := false }, kinds := [], alts := [], laidByText := true, laidKinds := [.data, .data], laidTests := true, laidLooks := .later }
def HashLongUptoCardSaid : Prop := Claim7.holds Tryd.pinned (.plain (OpenSpec.upto hashLongSpec)) hashLongUptoCard

/-- THE SECOND FORM's CARD OF 'caravanlaw01.HashMore'. -/
def hashMoreUptoCard : Claim7 := { stood := { row := hashMoreUptoRow, standIns := [], harness := (true, "a5e59ec0591c3b95fe593499ffa184dce194c006744ca651847a72305baa0470"), looks := false }, kinds := [], alts := [], laidByText := true, laidKinds := [.data, .data], laidTests := true, laidLooks := .later }
def HashMoreUptoCardSaid : Prop := Claim7.holds Tryd.pinned (.plain (OpenSpec.upto hashMoreSpec)) hashMoreUptoCard

/-- THE SECOND FORM's CARD OF 'caravanlaw02.OidNear'. -/
def oidNearUptoCard : Claim7 := { stood := { row := oidNearUptoRow, standIns := [], harness := (true, "a5e59ec0591c3b95fe593499ffa184dce194c006744ca651847a72305baa0470"), looks := false }, kinds := [], alts := [], laidByText := true, laidKinds := [.data, .data], laidTests := true, laidLooks := .later }
def OidNearUptoCardSaid : Prop := Claim7.holds Tryd.pinned (.plain (OpenSpec.upto oidNearSpec)) oidNearUptoCard

/-- THE SECOND FORM's CARD OF 'caravanlaw02.OidDistance'. -/
def oidDistanceUptoCard : Claim7 := { stood := { row := oidDistanceUptoRow, standIns := [], harness := (true, "a5e59ec0591c3b95fe593499ffa184dce194c006744ca651847a72305baa0470"), looks := false }, kinds := [], alts := [], laidByText := true, laidKinds := [.data, .data], laidTests := true, laidLooks := .later }
def OidDistanceUptoCardSaid : Prop := Claim7.holds Tryd.pinned (.plain (OpenSpec.upto oidDistanceSpec)) oidDistanceUptoCard

/-- THE SECOND FORM's CARD OF 'caravanlaw02.OidTexts'. -/
def oidTextsUptoCard : Claim7 := { stood := { row := oidTextsUptoRow, standIns := [], harness := (true, "a5e59ec0591c3b95fe593499ffa184dce194c006744ca651847a72305baa0470"), looks := false }, kinds := [], alts := [], laidByText := true, laidKinds := [.data, .data], laidTests := true, laidLooks := .later }
def OidTextsUptoCardSaid : Prop := Claim7.holds Tryd.pinned (.plain (OpenSpec.upto oidTextsSpec)) oidTextsUptoCard

/-- THE SECOND FORM's CARD OF 'caravanlaw02.OidTakes'. -/
def oidTakesUptoCard : Claim7 := { stood := { row := oidTakesUptoRow, standIns := [], harness := (true, "a5e59ec0591c3b95fe593499ffa184dce194c006744ca651847a72305baa0470"), looks := false }, kinds := [], alts := [], laidByText := true, laidKinds := [.data, .data], laidTests := true, laidLooks := .later }
def OidTakesUptoCardSaid : Prop := Claim7.holds Tryd.pinned (.plain (OpenSpec.upto oidTakesSpec)) oidTakesUptoCard

/-- THE SECOND FORM's CARD OF 'caravanlaw02.OidSorts'. -/
def oidSortsUptoCard : Claim7 := { stood := { row := oidSortsUptoRow, standIns := [], harness := (true, "a5e59ec0591c3b95fe593499ffa184dce194c006744ca651847a72305baa0470"), looks := false }, kinds := [], alts := [], laidByText := true, laidKinds := [.data, .data], laidTests := true, laidLooks := .later }
def OidSortsUptoCardSaid : Prop := Claim7.holds Tryd.pinned (.plain (OpenSpec.upto oidSortsSpec)) oidSortsUptoCard
end Rows
end Go.Proofs.YtjbjkkgkefpggaaDoor
