/-
  DERIVED. GIVEN WITH THE SEED: THE CARDS: each row of YtaicjdjfhbmfeaaDoorRows.lean that lists a variable, with what it lists TIED to the program's text (the seventh form; the later family's looks); each row that meets fmt, with fmt's text TOLD by the authors' own Lean function (tested against real Go, not proved from fmt's source: count such statements apart). THE CARD IS WHAT COUNTS. Prove the row's statement (the work); the ties are given (YtaicjdjfhbmfeaaDoorTie.lean); close each card by the builder's one call (the guide's Derived/Test/ToyasCard.lean, 'card_holds'). Laid BY PROGRAM, IN A SANDBOX (cutbox-door.mjs). By AI agents, Wed Nov 11 2026. No macro, syntax, notation, axiom, sorry.
-/
import Derived.Test.YtaicjdjfhbmfeaaDoorRows
import GoSem.ClaimSeven
namespace Go.Proofs.YtaicjdjfhbmfeaaDoor
namespace Rows

/-- THE TIED CARD OF 'caravanlaw19.BucketPlays'. -/
def bucketPlaysCard : Claim7 := { stood := { row := bucketPlaysRow, standIns := [], harness := (true, "237b6725d9393622f4d2a5c1b0ea50f1618bab61916c5430eb8025d28191ad5b"), looks := false }, kinds := [], alts := [], laidByText := true, laidKinds := [.data, .data], laidTests := true, laidLooks := .later }
def BucketPlaysCardSaid : Prop := Claim7.holds Tryd.pinned (.plain (OpenSpec.ofChange bucketPlaysSpec)) bucketPlaysCard

/-- THE TIED CARD OF 'caravanlaw19.BucketStay'. -/
def bucketStayCard : Claim7 := { stood := { row := bucketStayRow, standIns := [], harness := (true, "237b6725d9393622f4d2a5c1b0ea50f1618bab61916c5430eb8025d28191ad5b"), looks := false }, kinds := [], alts := [], laidByText := true, laidKinds := [.data, .data], laidTests := true, laidLooks := .later }
def BucketStayCardSaid : Prop := Claim7.holds Tryd.pinned (.plain (OpenSpec.ofChange bucketStaySpec)) bucketStayCard

/-- THE TIED CARD OF 'caravanlaw19.BucketSorts'. -/
def bucketSortsCard : Claim7 := { stood := { row := bucketSortsRow, standIns := [], harness := (true, "237b6725d9393622f4d2a5c1b0ea50f1618bab61916c5430eb8025d28191ad5b"), looks := false }, kinds := [], alts := [], laidByText := true, laidKinds := [.data, .data], laidTests := true, laidLooks := .later }
def BucketSortsCardSaid : Prop := Claim7.holds Tryd.pinned (.plain (OpenSpec.ofChange bucketSortsSpec)) bucketSortsCard

/-- THE TIED CARD OF 'caravanlaw19.BucketFull'. -/
def bucketFullCard : Claim7 := { stood := { row := bucketFullRow, standIns := [], harness := (true, "237b6725d9393622f4d2a5c1b0ea50f1618bab61916c5430eb8025d28191ad5b"), looks := false }, kinds := [], alts := [], laidByText := true, laidKinds := [.data, .data], laidTests := true, laidLooks := .later }
def BucketFullCardSaid : Prop := Claim7.holds Tryd.pinned (.plain (OpenSpec.ofChange bucketFullSpec)) bucketFullCard

/-- THE TIED CARD OF 'caravanlaw19.BucketNext'. -/
def bucketNextCard : Claim7 := { stood := { row := bucketNextRow, standIns := [], harness := (true, "237b6725d9393622f4d2a5c1b0ea50f1618bab61916c5430eb8025d28191ad5b"), looks := false }, kinds := [], alts := [], laidByText := true, laidKinds := [.data, .data], laidTests := true, laidLooks := .later }
def BucketNextCardSaid : Prop := Claim7.holds Tryd.pinned (.plain (OpenSpec.ofChange bucketNextSpec)) bucketNextCard

/-- THE TIED CARD OF 'caravanlaw20.SeekEnds'. -/
def seekEndsCard : Claim7 := { stood := { row := seekEndsRow, standIns := [], harness := (true, "237b6725d9393622f4d2a5c1b0ea50f1618bab61916c5430eb8025d28191ad5b"), looks := false }, kinds := [], alts := [], laidByText := true, laidKinds := [.data, .data], laidTests := true, laidLooks := .later }
def SeekEndsCardSaid : Prop := Claim7.holds Tryd.pinned (.plain (OpenSpec.ofChange seekEndsSpec)) seekEndsCard

/-- THE TIED CARD OF 'caravanlaw20.SeekSilent'. -/
def seekSilentCard : Claim7 := { stood := { row := seekSilentRow, standIns := [], harness := (true, "237b6725d9393622f4d2a5c1b0ea50f1618bab61916c5430eb8025d28191ad5b"), looks := false }, kinds := [], alts := [], laidByText := true, laidKinds := [.data, .data], laidTests := true, laidLooks := .later }
def SeekSilentCardSaid : Prop := Claim7.holds Tryd.pinned (.plain (OpenSpec.ofChange seekSilentSpec)) seekSilentCard

/-- THE TIED CARD OF 'caravanlaw20.SeekHolders'. -/
def seekHoldersCard : Claim7 := { stood := { row := seekHoldersRow, standIns := [], harness := (true, "237b6725d9393622f4d2a5c1b0ea50f1618bab61916c5430eb8025d28191ad5b"), looks := false }, kinds := [], alts := [], laidByText := true, laidKinds := [.data, .data], laidTests := true, laidLooks := .later }
def SeekHoldersCardSaid : Prop := Claim7.holds Tryd.pinned (.plain (OpenSpec.ofChange seekHoldersSpec)) seekHoldersCard

/-- THE SECOND FORM's CARD OF 'caravanlaw19.BucketPlays'. -/
def bucketPlaysUptoCard : Claim7 := { stood := { row := bucketPlaysUptoRow, standIns := [], harness := (true, "237b6725d9393622f4d2a5c1b0ea50f1618bab61916c5430eb8025d28191ad5b"), looks := false }, kinds := [], alts := [], laidByText := true, laidKinds := [.data, .data], laidTests := true, laidLooks := .later }
def BucketPlaysUptoCardSaid : Prop := Claim7.holds Tryd.pinned (.plain (OpenSpec.upto bucketPlaysSpec)) bucketPlaysUptoCard

/-- THE SECOND FORM's CARD OF 'caravanlaw19.BucketStay'. -/
def bucketStayUptoCard : Claim7 := { stood := { row := bucketStayUptoRow, standIns := [], harness := (true, "237b6725d9393622f4d2a5c1b0ea50f1618bab61916c5430eb8025d28191ad5b"), looks := false }, kinds := [], alts := [], laidByText := true, laidKinds := [.data, .data], laidTests := true, laidLooks := .later }
def BucketStayUptoCardSaid : Prop := Claim7.holds Tryd.pinned (.plain (OpenSpec.upto bucketStaySpec)) bucketStayUptoCard

/-- THE SECOND FORM's CARD OF 'caravanlaw19.BucketSorts'. -/
def bucketSortsUptoCard : Claim7 := { stood := { row := bucketSortsUptoRow, standIns := [], harness := (true, "237b6725d9393622f4d2a5c1b0ea50f1618bab61916c5430eb8025d28191ad5b"), looks := false }, kinds := [], alts := [], laidByText := true, laidKinds := [.data, .data], laidTests := true, laidLooks := .later }
def BucketSortsUptoCardSaid : Prop := Claim7.holds Tryd.pinned (.plain (OpenSpec.upto bucketSortsSpec)) bucketSortsUptoCard

/-- THE SECOND FORM's CARD OF 'caravanlaw19.BucketFull'. -/
def bucketFullUptoCard : Claim7 := { stood := { row := bucketFullUptoRow, standIns := [], harness := (true, "237b6725d9393622f4d2a5c1b0ea50f1618bab61916c5430eb8025d28191ad5b"), looks := false }, kinds := [], alts := [], laidByText := true, laidKinds := [.data, .data], laidTests := true, laidLooks := .later }
def BucketFullUptoCardSaid : Prop := Claim7.holds Tryd.pinned (.plain (OpenSpec.upto bucketFullSpec)) bucketFullUptoCard

/-- THE SECOND FORM's CARD OF 'caravanlaw19.BucketNext'. -/
def bucketNextUptoCard : Claim7 := { stood := { row := bucketNextUptoRow, standIns := [], harness := (true, "237b6725d9393622f4d2a5c1b0ea50f1618bab61916c5430eb8025d28191ad5b"), looks := false }, kinds := [], alts := [], laidByText := true, laidKinds := [.data, .data], laidTests := true, laidLooks := .later }
def BucketNextUptoCardSaid : Prop := Claim7.holds Tryd.pinned (.plain (OpenSpec.upto bucketNextSpec)) bucketNextUptoCard

/-- THE SECOND FORM's CARD OF 'caravanlaw20.SeekEnds'. -/
def seekEndsUptoCard : Claim7 := { stood := { row := seekEndsUptoRow, standIns := [], harness := (true, "237b6725d9393622f4d2a5c1b0ea50f1618bab61916c5430eb8025d28191ad5b"), looks := false }, kinds := [], alts := [], laidByText := true, laidKinds := [.data, .data], laidTests := true, laidLooks := .later }
def SeekEndsUptoCardSaid : Prop := Claim7.holds Tryd.pinned (.plain (OpenSpec.upto seekEndsSpec)) seekEndsUptoCard

/-- THE SECOND FORM's CARD OF 'caravanlaw20.SeekSilent'. -/
def seekSilentUptoCard : Claim7 := { stood := { row := seekSilentUptoRow, standIns := [], harness := (true, "237b6725d9393622f4d2a5c1b0ea50f1618bab61916c5430eb8025d28191ad5b"), looks := false }, kinds := [], alts := [], laidByText := true, laidKinds := [.data, .data], laidTests := true, laidLooks := .later }
def SeekSilentUptoCardSaid : Prop := Claim7.holds Tryd.pinned (.plain (OpenSpec.upto seekSilentSpec)) seekSilentUptoCard

/-- THE SECOND FORM's CARD OF 'caravanlaw20.SeekHolders'. -/
def seekHoldersUptoCard : Claim7 := { stood := { row := seekHoldersUptoRow, standIns := [], harness := (true, "237b6725d9393622f4d2a5c1b0ea50f1618bab61916c5430eb8025d28191ad5b"), looks := false }, kinds := [], alts := [], laidByText := true, laidKinds := [.data, .data], laidTests := true, laidLooks := .later }
def SeekHoldersUptoCardSaid : Prop := Claim7.holds Tryd.pinned (.plain (OpenSpec.upto seekHoldersSpec)) seekHoldersUptoCard
end Rows
end Go.Proofs.YtaicjdjfhbmfeaaDoor
