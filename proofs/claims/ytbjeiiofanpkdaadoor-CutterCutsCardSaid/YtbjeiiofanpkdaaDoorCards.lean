/-
  DERIVED. GIVEN WITH THE SEED: THE CARDS: each row of YtbjeiiofanpkdaaDoorRows.lean that lists a variable, with what it lists TIED to the program's text (the seventh form; the later family's looks); each row that meets fmt, with fmt's text TOLD by the authors' own Lean function (tested against real Go, not proved from fmt's source: count such statements apart). THE CARD IS WHAT COUNTS. Prove the row's statement (the work); the ties are given (YtbjeiiofanpkdaaDoorTie.lean); close each card by the builder's one call (the guide's Derived/Test/ToyasCard.lean, 'card_holds'). Laid BY PROGRAM, IN A SANDBOX (cutbox-door.mjs). By AI agents, Wed Nov 11 2026. No macro, syntax, notation, axiom, sorry.
-/
import Derived.Test.YtbjeiiofanpkdaaDoorRows
import GoSem.ClaimSeven
namespace Go.Proofs.YtbjeiiofanpkdaaDoor
namespace Rows

/-- THE TIED CARD OF 'caravanlaw01.HashOf'. -/
def hashOfCard : Claim7 := { stood := { row := hashOfRow, standIns := [], harness := (true, "0f4cc279c0858e79e168a958dae20ebae76a2a8d7b168724fd181e3300c5f8bf"), looks := false }, kinds := [], alts := [], laidByText := true, laidKinds := [.data, .data], laidTests := true, laidLooks := .later }
def HashOfCardSaid : Prop := Claim7.holds Tryd.pinned (.plain (OpenSpec.ofChange hashOfSpec)) hashOfCard

/-- THE TIED CARD OF 'caravanlaw02.OidTexts'. -/
def oidTextsCard : Claim7 := { stood := { row := oidTextsRow, standIns := [], harness := (true, "0f4cc279c0858e79e168a958dae20ebae76a2a8d7b168724fd181e3300c5f8bf"), looks := false }, kinds := [], alts := [], laidByText := true, laidKinds := [.data, .data], laidTests := true, laidLooks := .later }
def OidTextsCardSaid : Prop := Claim7.holds Tryd.pinned (.plain (OpenSpec.ofChange oidTextsSpec)) oidTextsCard

/-- THE TIED CARD OF 'caravanlaw07.GearTable'. -/
def gearTableCard : Claim7 := { stood := { row := gearTableRow, standIns := [], harness := (true, "0f4cc279c0858e79e168a958dae20ebae76a2a8d7b168724fd181e3300c5f8bf"), looks := false }, kinds := [], alts := [], laidByText := true, laidKinds := [.data, .data], laidTests := true, laidLooks := .later }
def GearTableCardSaid : Prop := Claim7.holds Tryd.pinned (.plain (OpenSpec.ofChange gearTableSpec)) gearTableCard

/-- THE TIED CARD OF 'caravanlaw07.GearRolls'. -/
def gearRollsCard : Claim7 := { stood := { row := gearRollsRow, standIns := [], harness := (true, "0f4cc279c0858e79e168a958dae20ebae76a2a8d7b168724fd181e3300c5f8bf"), looks := false }, kinds := [], alts := [], laidByText := true, laidKinds := [.data, .data], laidTests := true, laidLooks := .later }
def GearRollsCardSaid : Prop := Claim7.holds Tryd.pinned (.plain (OpenSpec.ofChange gearRollsSpec)) gearRollsCard

/-- THE TIED CARD OF 'caravanlaw07.GearLocal'. -/
def gearLocalCard : Claim7 := { stood := { row := gearLocalRow, standIns := [], harness := (true, "0f4cc279c0858e79e168a958dae20ebae76a2a8d7b168724fd181e3300c5f8bf"), looks := false }, kinds := [], alts := [], laidByText := true, laidKinds := [.data, .data], laidTests := true, laidLooks := .later }
def GearLocalCardSaid : Prop := Claim7.holds Tryd.pinned (.plain (OpenSpec.ofChange gearLocalSpec)) gearLocalCard

/-- THE TIED CARD OF 'caravanlaw07.GearMasks'. -/
def gearMasksCard : Claim7 := { stood := { row := gearMasksRow, standIns := [], harness := (true, "0f4cc279c0858e79e168a958dae20ebae76a2a8d7b168724fd181e3300c5f8bf"), looks := false }, kinds := [], alts := [], laidByText := true, laidKinds := [.data, .data], laidTests := true, laidLooks := .later }
def GearMasksCardSaid : Prop := Claim7.holds Tryd.pinned (.plain (OpenSpec.ofChange gearMasksSpec)) gearMasksCard

/-- THE TIED CARD OF 'caravanlaw08.CutterCuts'. -/
def cutterCutsCard : Claim7 := { stood := { row := cutterCutsRow, standIns := [], harness := (true, "0f4cc279c0858e79e168a958dae20ebae76a2a8d7b168724fd181e3300c5f8bf"), looks := false }, kinds := [], alts := [], laidByText := true, laidKinds := [.data, .data], laidTests := true, laidLooks := .later }
def CutterCutsCardSaid : Prop := Claim7.holds Tryd.pinned (.plain (OpenSpec.ofChange cutterCutsSpec)) cutterCutsCard

/-- THE TIED CARD OF 'caravanlaw08.CutterParts'. -/
def cutterPartsCard : Claim7 := { stood := { row := cutterPartsRow, standIns := [], harness := (true, "0f4cc279c0858e79e168a958dae20ebae76a2a8d7b168724fd181e3300c5f8bf"), looks := false }, kinds := [], alts := [], laidByText := true, laidKinds := [.data, .data], laidTests := true, laidLooks := .later }
def CutterPartsCardSaid : Prop := Claim7.holds Tryd.pinned (.plain (OpenSpec.ofChange cutterPartsSpec)) cutterPartsCard

/-- THE TIED CARD OF 'caravanlaw08.CutterSizes'. -/
def cutterSizesCard : Claim7 := { stood := { row := cutterSizesRow, standIns := [], harness := (true, "0f4cc279c0858e79e168a958dae20ebae76a2a8d7b168724fd181e3300c5f8bf"), looks := false }, kinds := [], alts := [], laidByText := true, laidKinds := [.data, .data], laidTests := true, laidLooks := .later }
def CutterSizesCardSaid : Prop := Claim7.holds Tryd.pinned (.plain (OpenSpec.ofChange cutterSizesSpec)) cutterSizesCard

/-- THE TIED CARD OF 'caravanlaw08.CutterLocal'. -/
def cutterLocalCard : Claim7 := { stood := { row := cutterLocalRow, standIns := [], harness := (true, "0f4cc279c0858e79e168a958dae20ebae76a2a8d7b168724fd181e3300c5f8bf"), looks := false }, kinds := [], alts := [], laidByText := true, laidKinds := [.data, .data], laidTests := true, laidLooks := .later }
def CutterLocalCardSaid : Prop := Claim7.holds Tryd.pinned (.plain (OpenSpec.ofChange cutterLocalSpec)) cutterLocalCard

/-- THE TIED CARD OF 'caravanlaw08.CutterAgain'. -/
def cutterAgainCard : Claim7 := { stood := { row := cutterAgainRow, standIns := [], harness := (true, "0f4cc279c0858e79e168a958dae20ebae76a2a8d7b168724fd181e3300c5f8bf"), looks := false }, kinds := [], alts := [], laidByText := true, laidKinds := [.data, .data], laidTests := true, laidLooks := .later }
def CutterAgainCardSaid : Prop := Claim7.holds Tryd.pinned (.plain (OpenSpec.ofChange cutterAgainSpec)) cutterAgainCard

/-- THE SECOND FORM's CARD OF 'caravanlaw01.HashOf'. -/
def hashOfUptoCard : Claim7 := { stood := { row := hashOfUptoRow, standIns := [], harness := (true, "0f4cc279c0858e79e168a958dae20ebae76a2a8d7b168724fd181e3300c5f8bf"), looks := false }, kinds := [], alts := [], laidByText := true, laidKinds := [.data, .data], laidTests := true, laidLooks := .later }
def HashOfUptoCardSaid : Prop := Claim7.holds Tryd.pinned (.plain (OpenSpec.upto hashOfSpec)) hashOfUptoCard

/-- THE SECOND FORM's CARD OF 'caravanlaw02.OidTexts'. -/
def oidTextsUptoCard : Claim7 := { stood := { row := oidTextsUptoRow, standIns := [], harness := (true, "0f4cc279c0858e79e168a958dae20ebae76a2a8d7b168724fd181e3300c5f8bf"), looks := false }, kinds := [], alts := [], laidByText := true, laidKinds := [.data, .data], laidTests := true, laidLooks := .later }
def OidTextsUptoCardSaid : Prop := Claim7.holds Tryd.pinned (.plain (OpenSpec.upto oidTextsSpec)) oidTextsUptoCard

/-- THE SECOND FORM's CARD OF 'caravanlaw07.GearTable'. -/
def gearTableUptoCard : Claim7 := { stood := { row := gearTableUptoRow, standIns := [], harness := (true, "0f4cc279c0858e79e168a958dae20ebae76a2a8d7b168724fd181e3300c5f8bf"), looks := false }, kinds := [], alts := [], laidByText := true, laidKinds := [.data, .data], laidTests := true, laidLooks := .later }
def GearTableUptoCardSaid : Prop := Claim7.holds Tryd.pinned (.plain (OpenSpec.upto gearTableSpec)) gearTableUptoCard

/-- THE SECOND FORM's CARD OF 'caravanlaw07.GearRolls'. -/
def gearRollsUptoCard : Claim7 := { stood := { row := gearRollsUptoRow, standIns := [], harness := (true, "0f4cc279c0858e79e168a958dae20ebae76a2a8d7b168724fd181e3300c5f8bf"), looks := false }, kinds := [], alts := [], laidByText := true, laidKinds := [.data, .data], laidTests := true, laidLooks := .later }
def GearRollsUptoCardSaid : Prop := Claim7.holds Tryd.pinned (.plain (OpenSpec.upto gearRollsSpec)) gearRollsUptoCard

/-- THE SECOND FORM's CARD OF 'caravanlaw07.GearLocal'. -/
def gearLocalUptoCard : Claim7 := { stood := { row := gearLocalUptoRow, standIns := [], harness := (true, "0f4cc279c0858e79e168a958dae20ebae76a2a8d7b168724fd181e3300c5f8bf"), looks := false }, kinds := [], alts := [], laidByText := true, laidKinds := [.data, .data], laidTests := true, laidLooks := .later }
def GearLocalUptoCardSaid : Prop := Claim7.holds Tryd.pinned (.plain (OpenSpec.upto gearLocalSpec)) gearLocalUptoCard

/-- THE SECOND FORM's CARD OF 'caravanlaw07.GearMasks'. -/
def gearMasksUptoCard : Claim7 := { stood := { row := gearMasksUptoRow, standIns := [], harness := (true, "0f4cc279c0858e79e168a958dae20ebae76a2a8d7b168724fd181e3300c5f8bf"), looks := false }, kinds := [], alts := [], laidByText := true, laidKinds := [.data, .data], laidTests := true, laidLooks := .later }
def GearMasksUptoCardSaid : Prop := Claim7.holds Tryd.pinned (.plain (OpenSpec.upto gearMasksSpec)) gearMasksUptoCard

/-- THE SECOND FORM's CARD OF 'caravanlaw08.CutterCuts'. -/
def cutterCutsUptoCard : Claim7 := { stood := { row := cutterCutsUptoRow, standIns := [], harness := (true, "0f4cc279c0858e79e168a958dae20ebae76a2a8d7b168724fd181e3300c5f8bf"), looks := false }, kinds := [], alts := [], laidByText := true, laidKinds := [.data, .data], laidTests := true, laidLooks := .later }
def CutterCutsUptoCardSaid : Prop := Claim7.holds Tryd.pinned (.plain (OpenSpec.upto cutterCutsSpec)) cutterCutsUptoCard

/-- THE SECOND FORM's CARD OF 'caravanlaw08.CutterParts'. -/
def cutterPartsUptoCard : Claim7 := { stood := { row := cutterPartsUptoRow, standIns := [], harness := (true, "0f4cc279c0858e79e168a958dae20ebae76a2a8d7b168724fd181e3300c5f8bf"), looks := false }, kinds := [], alts := [], laidByText := true, laidKinds := [.data, .data], laidTests := true, laidLooks := .later }
def CutterPartsUptoCardSaid : Prop := Claim7.holds Tryd.pinned (.plain (OpenSpec.upto cutterPartsSpec)) cutterPartsUptoCard

/-- THE SECOND FORM's CARD OF 'caravanlaw08.CutterSizes'. -/
def cutterSizesUptoCard : Claim7 := { stood := { row := cutterSizesUptoRow, standIns := [], harness := (true, "0f4cc279c0858e79e168a958dae20ebae76a2a8d7b168724fd181e3300c5f8bf"), looks := false }, kinds := [], alts := [], laidByText := true, laidKinds := [.data, .data], laidTests := true, laidLooks := .later }
def CutterSizesUptoCardSaid : Prop := Claim7.holds Tryd.pinned (.plain (OpenSpec.upto cutterSizesSpec)) cutterSizesUptoCard

/-- THE SECOND FORM's CARD OF 'caravanlaw08.CutterLocal'. -/
def cutterLocalUptoCard : Claim7 := { stood := { row := cutterLocalUptoRow, standIns := [], harness := (true, "0f4cc279c0858e79e168a958dae20ebae76a2a8d7b168724fd181e3300c5f8bf"), looks := false }, kinds := [], alts := [], laidByText := true, laidKinds := [.data, .data], laidTests := true, laidLooks := .later }
def CutterLocalUptoCardSaid : Prop := Claim7.holds Tryd.pinned (.plain (OpenSpec.upto cutterLocalSpec)) cutterLocalUptoCard

/-- THE SECOND FORM's CARD OF 'caravanlaw08.CutterAgain'. -/
def cutterAgainUptoCard : Claim7 := { stood := { row := cutterAgainUptoRow, standIns := [], harness := (true, "0f4cc279c0858e79e168a958dae20ebae76a2a8d7b168724fd181e3300c5f8bf"), looks := false }, kinds := [], alts := [], laidByText := true, laidKinds := [.data, .data], laidTests := true, laidLooks := .later }
def CutterAgainUptoCardSaid : Prop := Claim7.holds Tryd.pinned (.plain (OpenSpec.upto cutterAgainSpec)) cutterAgainUptoCard
end Rows
end Go.Proofs.YtbjeiiofanpkdaaDoor
