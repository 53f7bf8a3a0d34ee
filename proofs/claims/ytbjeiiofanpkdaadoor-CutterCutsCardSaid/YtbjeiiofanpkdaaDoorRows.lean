/-
  NARROWER THAN 'FOR EVERY INPUT', by the rows' own cells (each row's printed sentence says how): HashOf: laid · OidTexts: laid · GearTable: laid · GearRolls: laid · GearLocal: laid · GearMasks: laid · CutterCuts: laid · CutterParts: laid · CutterSizes: laid · CutterLocal: laid · CutterAgain: laid.
  DERIVED. THE GIVEN ROWS OF THIS SEAT. 11 by the template 'for every input the law returns true; each argument reads behind the call as it read before'; 0 by the template 'total and deterministic' (their statements: YtbjeiiofanpkdaaDoorTotals.lean).
  GIVEN WITH THE SEED: the statements are not yours to turn. If you find one false, say at which input.
  Laid BY PROGRAM, IN A SANDBOX (cutbox-rows.mjs): the forced cells as the released guide's own fill.sh prints them over the translation 83eb57168262ae1b… (all of the seat's roots in one cut). By AI agents, Wed Nov 11 2026. No macro, syntax, notation, axiom, sorry.
-/
import Derived.Test.YtbjeiiofanpkdaaDoorChecked
import GoSem.Claim
import GoSem.ClaimJoined
import GoSem.ClaimMapViews
import Derived.JoinedTies
import Derived.KernelRfl
namespace Go.Proofs.YtbjeiiofanpkdaaDoor
/- THE CELL 'sum', in the pinned program and in every row, IS THE sha256 OF THE DUMP (.gsa) THAT YtbjeiiofanpkdaaDoorProg.lean LOADS. Nothing in Lean hashes anything: it is a label: what it is worth is what the hold of that sum in a sandbox is worth. -/
noncomputable def Tryd.pinned : Pinned := { name := "ytbjeiiofanpkdaadoor", sum := "83eb57168262ae1bb0e3c87d8c624bf1a819bc5daacea105210700c6722bea91", checked := Tryd.checked }
namespace Rows
def none {H : Type} : Left H := { results := [], args := [] }

/- WHAT THE LISTED PACKAGE-LEVEL VARIABLES READ AS WHEN THE CALL BEGINS. Each datum BY PROGRAM (the guide's laid-datum.mjs) off the statement by which the dump's own 'gosem.cut.vars' lays the variable. In a bare row this is a premise. The card (YtbjeiiofanpkdaaDoorCards.lean) ties it to the program's text. -/
def laid_caravan_hash_initialWords {H : Type} : DataW H := .agg [.lit (.int .u32 1779033703), .lit (.int .u32 3144134277), .lit (.int .u32 1013904242), .lit (.int .u32 2773480762), .lit (.int .u32 1359893119), .lit (.int .u32 2600822924), .lit (.int .u32 528734635), .lit (.int .u32 1541459225)]
def laid_caravan_hash_roundWords {H : Type} : DataW H := .agg [.lit (.int .u32 1116352408), .lit (.int .u32 1899447441), .lit (.int .u32 3049323471), .lit (.int .u32 3921009573), .lit (.int .u32 961987163), .lit (.int .u32 1508970993), .lit (.int .u32 2453635748), .lit (.int .u32 2870763221), .lit (.int .u32 3624381080), .lit (.int .u32 310598401), .lit (.int .u32 607225278), .lit (.int .u32 1426881987), .lit (.int .u32 1925078388), .lit (.int .u32 2162078206), .lit (.int .u32 2614888103), .lit (.int .u32 3248222580), .lit (.int .u32 3835390401), .lit (.int .u32 4022224774), .lit (.int .u32 264347078), .lit (.int .u32 604807628), .lit (.int .u32 770255983), .lit (.int .u32 1249150122), .lit (.int .u32 1555081692), .lit (.int .u32 1996064986), .lit (.int .u32 2554220882), .lit (.int .u32 2821834349), .lit (.int .u32 2952996808), .lit (.int .u32 3210313671), .lit (.int .u32 3336571891), .lit (.int .u32 3584528711), .lit (.int .u32 113926993), .lit (.int .u32 338241895), .lit (.int .u32 666307205), .lit (.int .u32 773529912), .lit (.int .u32 1294757372), .lit (.int .u32 1396182291), .lit (.int .u32 1695183700), .lit (.int .u32 1986661051), .lit (.int .u32 2177026350), .lit (.int .u32 2456956037), .lit (.int .u32 2730485921), .lit (.int .u32 2820302411), .lit (.int .u32 3259730800), .lit (.int .u32 3345764771), .lit (.int .u32 3516065817), .lit (.int .u32 3600352804), .lit (.int .u32 4094571909), .lit (.int .u32 275423344), .lit (.int .u32 430227734), .lit (.int .u32 506948616), .lit (.int .u32 659060556), .lit (.int .u32 883997877), .lit (.int .u32 958139571), .lit (.int .u32 1322822218), .lit (.int .u32 1537002063), .lit (.int .u32 1747873779), .lit (.int .u32 1955562222), .lit (.int .u32 2024104815), .lit (.int .u32 2227730452), .lit (.int .u32 2361852424), .lit (.int .u32 2428436474), .lit (.int .u32 2756734187), .lit (.int .u32 3204031479), .lit (.int .u32 3329325298)]

/-- 'caravanlaw01.HashOf': WHATEVER THE INPUT: true; the input reads as it did. -/
def hashOfSpec : ChangeSpec := { name := "hashOf", fn := fun _ => fun
  | [d] => { results := [.lit (.bool true)], args := [d] }
  | _ => none }
def hashOfRow : OpenClaim := { program := "ytbjeiiofanpkdaadoor", sum := "83eb57168262ae1bb0e3c87d8c624bf1a819bc5daacea105210700c6722bea91", func := "caravan/caravanlaw01.HashOf", spec := "hashOf", named := ["caravan/hash.initialWords", "caravan/hash.roundWords"], apart := false, laid := [("caravan/hash.initialWords", laid_caravan_hash_initialWords), ("caravan/hash.roundWords", laid_caravan_hash_roundWords)] }
def HashOfSaid : Prop := hashOfRow.holds Tryd.pinned (OpenSpec.ofChange hashOfSpec)

/-- ITS FALSE NEIGHBOUR: 'it returns false'. Refute it at one input. -/
def hashOfWrong : ChangeSpec := { name := "hashOf", fn := fun _ => fun
  | [d] => { results := [.lit (.bool false)], args := [d] }
  | _ => none }
def HashOfWrongFalsely : Prop := hashOfRow.holds Tryd.pinned (OpenSpec.ofChange hashOfWrong)

/-- 'caravanlaw02.OidTexts': WHATEVER THE INPUT: true; the input reads as it did. -/
def oidTextsSpec : ChangeSpec := { name := "oidTexts", fn := fun _ => fun
  | [d1, d2] => { results := [.lit (.bool true)], args := [d1, d2] }
  | _ => none }
def oidTextsRow : OpenClaim := { program := "ytbjeiiofanpkdaadoor", sum := "83eb57168262ae1bb0e3c87d8c624bf1a819bc5daacea105210700c6722bea91", func := "caravan/caravanlaw02.OidTexts", spec := "oidTexts", inPlace := ["internal/bytealg.IndexByteString", "internal/bytealg.Compare"], named := ["caravan/hash.initialWords", "caravan/hash.roundWords"], apart := false, laid := [("caravan/hash.initialWords", laid_caravan_hash_initialWords), ("caravan/hash.roundWords", laid_caravan_hash_roundWords)] }
def OidTextsSaid : Prop := oidTextsRow.holds Tryd.pinned (OpenSpec.ofChange oidTextsSpec)

/-- ITS FALSE NEIGHBOUR: 'it returns false'. Refute it at one input. -/
def oidTextsWrong : ChangeSpec := { name := "oidTexts", fn := fun _ => fun
  | [d1, d2] => { results := [.lit (.bool false)], args := [d1, d2] }
  | _ => none }
def OidTextsWrongFalsely : Prop := oidTextsRow.holds Tryd.pinned (OpenSpec.ofChange oidTextsWrong)

/-- 'caravanlaw07.GearTable': WHATEVER THE INPUT: true; the input reads as it did. -/
def gearTableSpec : ChangeSpec := { name := "gearTable", fn := fun _ => fun
  | [d] => { results := [.lit (.bool true)], args := [d] }
  | _ => none }
def gearTableRow : OpenClaim := { program := "ytbjeiiofanpkdaadoor", sum := "83eb57168262ae1bb0e3c87d8c624bf1a819bc5daacea105210700c6722bea91", func := "caravan/caravanlaw07.GearTable", spec := "gearTable", named := ["caravan/hash.initialWords", "caravan/hash.roundWords"], apart := false, laid := [("caravan/hash.initialWords", laid_caravan_hash_initialWords), ("caravan/hash.roundWords", laid_caravan_hash_roundWords)] }
def GearTableSaid : Prop := gearTableRow.holds Tryd.pinned (OpenSpec.ofChange gearTableSpec)

/-- ITS FALSE NEIGHBOUR: 'it returns false'. Refute it at one input. -/
def gearTableWrong : ChangeSpec := { name := "gearTable", fn := fun _ => fun
  | [d] => { results := [.lit (.bool false)], args := [d] }
  | _ => none }
def GearTableWrongFalsely : Prop := gearTableRow.holds Tryd.pinned (OpenSpec.ofChange gearTableWrong)

/-- 'caravanlaw07.GearRolls': WHATEVER THE INPUT: true; the input reads as it did. -/
def gearRollsSpec : ChangeSpec := { name := "gearRolls", fn := fun _ => fun
  | [d] => { results := [.lit (.bool true)], args := [d] }
  | _ => none }
def gearRollsRow : OpenClaim := { program := "ytbjeiiofanpkdaadoor", sum := "83eb57168262ae1bb0e3c87d8c624bf1a819bc5daacea105210700c6722bea91", func := "caravan/caravanlaw07.GearRolls", spec := "gearRolls", named := ["caravan/hash.initialWords", "caravan/hash.roundWords"], apart := false, laid := [("caravan/hash.initialWords", laid_caravan_hash_initialWords), ("caravan/hash.roundWords", laid_caravan_hash_roundWords)] }
def GearRollsSaid : Prop := gearRollsRow.holds Tryd.pinned (OpenSpec.ofChange gearRollsSpec)

/-- ITS FALSE NEIGHBOUR: 'it returns false'. Refute it at one input. -/
def gearRollsWrong : ChangeSpec := { name := "gearRolls", fn := fun _ => fun
  | [d] => { results := [.lit (.bool false)], args := [d] }
  | _ => none }
def GearRollsWrongFalsely : Prop := gearRollsRow.holds Tryd.pinned (OpenSpec.ofChange gearRollsWrong)

/-- 'caravanlaw07.GearLocal': WHATEVER THE INPUT: true; the input reads as it did. -/
def gearLocalSpec : ChangeSpec := { name := "gearLocal", fn := fun _ => fun
  | [d1, d2, d3] => { results := [.lit (.bool true)], args := [d1, d2, d3] }
  | _ => none }
def gearLocalRow : OpenClaim := { program := "ytbjeiiofanpkdaadoor", sum := "83eb57168262ae1bb0e3c87d8c624bf1a819bc5daacea105210700c6722bea91", func := "caravan/caravanlaw07.GearLocal", spec := "gearLocal", named := ["caravan/hash.initialWords", "caravan/hash.roundWords"], apart := false, laid := [("caravan/hash.initialWords", laid_caravan_hash_initialWords), ("caravan/hash.roundWords", laid_caravan_hash_roundWords)] }
def GearLocalSaid : Prop := gearLocalRow.holds Tryd.pinned (OpenSpec.ofChange gearLocalSpec)

/-- ITS FALSE NEIGHBOUR: 'it returns false'. Refute it at one input. -/
def gearLocalWrong : ChangeSpec := { name := "gearLocal", fn := fun _ => fun
  | [d1, d2, d3] => { results := [.lit (.bool false)], args := [d1, d2, d3] }
  | _ => none }
def GearLocalWrongFalsely : Prop := gearLocalRow.holds Tryd.pinned (OpenSpec.ofChange gearLocalWrong)

/-- 'caravanlaw07.GearMasks': WHATEVER THE INPUT: true; the input reads as it did. -/
def gearMasksSpec : ChangeSpec := { name := "gearMasks", fn := fun _ => fun
  | [d1, d2] => { results := [.lit (.bool true)], args := [d1, d2] }
  | _ => none }
def gearMasksRow : OpenClaim := { program := "ytbjeiiofanpkdaadoor", sum := "83eb57168262ae1bb0e3c87d8c624bf1a819bc5daacea105210700c6722bea91", func := "caravan/caravanlaw07.GearMasks", spec := "gearMasks", named := ["caravan/hash.initialWords", "caravan/hash.roundWords"], apart := false, laid := [("caravan/hash.initialWords", laid_caravan_hash_initialWords), ("caravan/hash.roundWords", laid_caravan_hash_roundWords)] }
def GearMasksSaid : Prop := gearMasksRow.holds Tryd.pinned (OpenSpec.ofChange gearMasksSpec)

/-- ITS FALSE NEIGHBOUR: 'it returns false'. Refute it at one input. -/
def gearMasksWrong : ChangeSpec := { name := "gearMasks", fn := fun _ => fun
  | [d1, d2] => { results := [.lit (.bool false)], args := [d1, d2] }
  | _ => none }
def GearMasksWrongFalsely : Prop := gearMasksRow.holds Tryd.pinned (OpenSpec.ofChange gearMasksWrong)

/-- 'caravanlaw08.CutterCuts': WHATEVER THE INPUT: true; the input reads as it did. -/
def cutterCutsSpec : ChangeSpec := { name := "cutterCuts", fn := fun _ => fun
  | [d1, d2, d3] => { results := [.lit (.bool true)], args := [d1, d2, d3] }
  | _ => none }
def cutterCutsRow : OpenClaim := { program := "ytbjeiiofanpkdaadoor", sum := "83eb57168262ae1bb0e3c87d8c624bf1a819bc5daacea105210700c6722bea91", func := "caravan/caravanlaw08.CutterCuts", spec := "cutterCuts", unfollowed := true, recurses := true, named := ["caravan/hash.initialWords", "caravan/hash.roundWords"], apart := false, laid := [("caravan/hash.initialWords", laid_caravan_hash_initialWords), ("caravan/hash.roundWords", laid_caravan_hash_roundWords)] }
def CutterCutsSaid : Prop := cutterCutsRow.holds Tryd.pinned (OpenSpec.ofChange cutterCutsSpec)

/-- ITS FALSE NEIGHBOUR: 'it returns false'. Refute it at one input. -/
def cutterCutsWrong : ChangeSpec := { name := "cutterCuts", fn := fun _ => fun
  | [d1, d2, d3] => { results := [.lit (.bool false)], args := [d1, d2, d3] }
  | _ => none }
def CutterCutsWrongFalsely : Prop := cutterCutsRow.holds Tryd.pinned (OpenSpec.ofChange cutterCutsWrong)

/-- 'caravanlaw08.CutterParts': WHATEVER THE INPUT: true; the input reads as it did. -/
def cutterPartsSpec : ChangeSpec := { name := "cutterParts", fn := fun _ => fun
  | [d1, d2, d3] => { results := [.lit (.bool true)], args := [d1, d2, d3] }
  | _ => none }
def cutterPartsRow : OpenClaim := { program := "ytbjeiiofanpkdaadoor", sum := "83eb57168262ae1bb0e3c87d8c624bf1a819bc5daacea105210700c6722bea91", func := "caravan/caravanlaw08.CutterParts", spec := "cutterParts", unfollowed := true, recurses := true, named := ["caravan/hash.initialWords", "caravan/hash.roundWords"], apart := false, laid := [("caravan/hash.initialWords", laid_caravan_hash_initialWords), ("caravan/hash.roundWords", laid_caravan_hash_roundWords)] }
def CutterPartsSaid : Prop := cutterPartsRow.holds Tryd.pinned (OpenSpec.ofChange cutterPartsSpec)

/-- ITS FALSE NEIGHBOUR: 'it returns false'. Refute it at one input. -/
def cutterPartsWrong : ChangeSpec := { name := "cutterParts", fn := fun _ => fun
  | [d1, d2, d3] => { results := [.lit (.bool false)], args := [d1, d2, d3] }
  | _ => none }
def CutterPartsWrongFalsely : Prop := cutterPartsRow.holds Tryd.pinned (OpenSpec.ofChange cutterPartsWrong)

/-- 'caravanlaw08.CutterSizes': WHATEVER THE INPUT: true; the input reads as it did. -/
def cutterSizesSpec : ChangeSpec := { name := "cutterSizes", fn := fun _ => fun
  | [d1, d2] => { results := [.lit (.bool true)], args := [d1, d2] }
  | _ => none }
def cutterSizesRow : OpenClaim := { program := "ytbjeiiofanpkdaadoor", sum := "83eb57168262ae1bb0e3c87d8c624bf1a819bc5daacea105210700c6722bea91", func := "caravan/caravanlaw08.CutterSizes", spec := "cutterSizes", unfollowed := true, recurses := true, named := ["caravan/hash.initialWords", "caravan/hash.roundWords"], apart := false, laid := [("caravan/hash.initialWords", laid_caravan_hash_initialWords), ("caravan/hash.roundWords", laid_caravan_hash_roundWords)] }
def CutterSizesSaid : Prop := cutterSizesRow.holds Tryd.pinned (OpenSpec.ofChange cutterSizesSpec)

/-- ITS FALSE NEIGHBOUR: 'it returns false'. Refute it at one input. -/
def cutterSizesWrong : ChangeSpec := { name := "cutterSizes", fn := fun _ => fun
  | [d1, d2] => { results := [.lit (.bool false)], args := [d1, d2] }
  | _ => none }
def CutterSizesWrongFalsely : Prop := cutterSizesRow.holds Tryd.pinned (OpenSpec.ofChange cutterSizesWrong)

/-- 'caravanlaw08.CutterLocal': WHATEVER THE INPUT: true; the input reads as it did. -/
def cutterLocalSpec : ChangeSpec := { name := "cutterLocal", fn := fun _ => fun
  | [d1, d2, d3, d4] => { results := [.lit (.bool true)], args := [d1, d2, d3, d4] }
  | _ => none }
def cutterLocalRow : OpenClaim := { program := "ytbjeiiofanpkdaadoor", sum := "83eb57168262ae1bb0e3c87d8c624bf1a819bc5daacea105210700c6722bea91", func := "caravan/caravanlaw08.CutterLocal", spec := "cutterLocal", unfollowed := true, recurses := true, named := ["caravan/hash.initialWords", "caravan/hash.roundWords"], apart := false, laid := [("caravan/hash.initialWords", laid_caravan_hash_initialWords), ("caravan/hash.roundWords", laid_caravan_hash_roundWords)] }
def CutterLocalSaid : Prop := cutterLocalRow.holds Tryd.pinned (OpenSpec.ofChange cutterLocalSpec)

/-- ITS FALSE NEIGHBOUR: 'it returns false'. Refute it at one input. -/
def cutterLocalWrong : ChangeSpec := { name := "cutterLocal", fn := fun _ => fun
  | [d1, d2, d3, d4] => { results := [.lit (.bool false)], args := [d1, d2, d3, d4] }
  | _ => none }
def CutterLocalWrongFalsely : Prop := cutterLocalRow.holds Tryd.pinned (OpenSpec.ofChange cutterLocalWrong)

/-- 'caravanlaw08.CutterAgain': WHATEVER THE INPUT: true; the input reads as it did. -/
def cutterAgainSpec : ChangeSpec := { name := "cutterAgain", fn := fun _ => fun
  | [d1, d2, d3] => { results := [.lit (.bool true)], args := [d1, d2, d3] }
  | _ => none }
def cutterAgainRow : OpenClaim := { program := "ytbjeiiofanpkdaadoor", sum := "83eb57168262ae1bb0e3c87d8c624bf1a819bc5daacea105210700c6722bea91", func := "caravan/caravanlaw08.CutterAgain", spec := "cutterAgain", unfollowed := true, recurses := true, named := ["caravan/hash.initialWords", "caravan/hash.roundWords"], apart := false, laid := [("caravan/hash.initialWords", laid_caravan_hash_initialWords), ("caravan/hash.roundWords", laid_caravan_hash_roundWords)] }
def CutterAgainSaid : Prop := cutterAgainRow.holds Tryd.pinned (OpenSpec.ofChange cutterAgainSpec)

/-- ITS FALSE NEIGHBOUR: 'it returns false'. Refute it at one input. -/
def cutterAgainWrong : ChangeSpec := { name := "cutterAgain", fn := fun _ => fun
  | [d1, d2, d3] => { results := [.lit (.bool false)], args := [d1, d2, d3] }
  | _ => none }
def CutterAgainWrongFalsely : Prop := cutterAgainRow.holds Tryd.pinned (OpenSpec.ofChange cutterAgainWrong)

/- THE SECOND FORM. 'bulk': how many values and letters a reading holds, each counted each time it is reached (what is shared counts as often as it is met; a slice's spare places count too). A statement '..UptoSaid' is the law's where the arguments, and the package variables that the reading takes, are together of bulk at most 1048576: NARROWER than '..Said'. Prove '..Said' where nothing that the law and all that it calls make is longer than what came in: it says more and counts as full. Else prove '..UptoSaid'. A law counts once. -/
mutual
def uptoBulk {H : Type} : DataW H → Nat
  | .lit (.string bytes) => bytes.length + 1
  | .lit _ => 1
  | .nil => 1
  | .ptr d => uptoBulk d + 1
  | .slice elems spare => uptoBulkAll elems + uptoBulkAll spare + 1
  | .agg parts => uptoBulkAll parts + 1
  | .iface _ d => uptoBulk d + 1
  | .map entries => uptoBulkEntries entries + 1
  | .held _ => 1
def uptoBulkAll {H : Type} : List (DataW H) → Nat
  | [] => 0
  | d :: r => uptoBulk d + uptoBulkAll r
def uptoBulkEntries {H : Type} : List (Lit × DataW H) → Nat
  | [] => 0
  | x :: r => uptoBulkEntry x + uptoBulkEntries r
def uptoBulkEntry {H : Type} : Lit × DataW H → Nat
  | (.string bytes, d) => bytes.length + uptoBulk d + 1
  | (_, d) => uptoBulk d + 1
 end
def uptoSmall : (H : Type) → List (DataW H) → Bool := fun _ ds => decide (uptoBulkAll ds ≤ 1048576)
def OpenSpec.upto (s : _root_.Go.ChangeSpec) : _root_.Go.OpenSpec := { _root_.Go.OpenSpec.ofChange s with cond := some uptoSmall }

/-- 'caravanlaw01.HashOf', WHERE WHAT IT READS IS OF BULK AT MOST 1048576: true; the input reads as it did. -/
def hashOfUptoRow : OpenClaim := { program := "ytbjeiiofanpkdaadoor", sum := "83eb57168262ae1bb0e3c87d8c624bf1a819bc5daacea105210700c6722bea91", func := "caravan/caravanlaw01.HashOf", spec := "hashOf", named := ["caravan/hash.initialWords", "caravan/hash.roundWords"], apart := false, laid := [("caravan/hash.initialWords", laid_caravan_hash_initialWords), ("caravan/hash.roundWords", laid_caravan_hash_roundWords)], narrowed := true }
def HashOfUptoSaid : Prop := hashOfUptoRow.holds Tryd.pinned (OpenSpec.upto hashOfSpec)

/-- 'caravanlaw02.OidTexts', WHERE WHAT IT READS IS OF BULK AT MOST 1048576: true; the input reads as it did. -/
def oidTextsUptoRow : OpenClaim := { program := "ytbjeiiofanpkdaadoor", sum := "83eb57168262ae1bb0e3c87d8c624bf1a819bc5daacea105210700c6722bea91", func := "caravan/caravanlaw02.OidTexts", spec := "oidTexts", inPlace := ["internal/bytealg.IndexByteString", "internal/bytealg.Compare"], named := ["caravan/hash.initialWords", "caravan/hash.roundWords"], apart := false, laid := [("caravan/hash.initialWords", laid_caravan_hash_initialWords), ("caravan/hash.roundWords", laid_caravan_hash_roundWords)], narrowed := true }
def OidTextsUptoSaid : Prop := oidTextsUptoRow.holds Tryd.pinned (OpenSpec.upto oidTextsSpec)

/-- 'caravanlaw07.GearTable', WHERE WHAT IT READS IS OF BULK AT MOST 1048576: true; the input reads as it did. -/
def gearTableUptoRow : OpenClaim := { program := "ytbjeiiofanpkdaadoor", sum := "83eb57168262ae1bb0e3c87d8c624bf1a819bc5daacea105210700c6722bea91", func := "caravan/caravanlaw07.GearTable", spec := "gearTable", named := ["caravan/hash.initialWords", "caravan/hash.roundWords"], apart := false, laid := [("caravan/hash.initialWords", laid_caravan_hash_initialWords), ("caravan/hash.roundWords", laid_caravan_hash_roundWords)], narrowed := true }
def GearTableUptoSaid : Prop := gearTableUptoRow.holds Tryd.pinned (OpenSpec.upto gearTableSpec)

/-- 'caravanlaw07.GearRolls', WHERE WHAT IT READS IS OF BULK AT MOST 1048576: true; the input reads as it did. -/
def gearRollsUptoRow : OpenClaim := { program := "ytbjeiiofanpkdaadoor", sum := "83eb57168262ae1bb0e3c87d8c624bf1a819bc5daacea105210700c6722bea91", func := "caravan/caravanlaw07.GearRolls", spec := "gearRolls", named := ["caravan/hash.initialWords", "caravan/hash.roundWords"], apart := false, laid := [("caravan/hash.initialWords", laid_caravan_hash_initialWords), ("caravan/hash.roundWords", laid_caravan_hash_roundWords)], narrowed := true }
def GearRollsUptoSaid : Prop := gearRollsUptoRow.holds Tryd.pinned (OpenSpec.upto gearRollsSpec)

/-- 'caravanlaw07.GearLocal', WHERE WHAT IT READS IS OF BULK AT MOST 1048576: true; the input reads as it did. -/
def gearLocalUptoRow : OpenClaim := { program := "ytbjeiiofanpkdaadoor", sum := "83eb57168262ae1bb0e3c87d8c624bf1a819bc5daacea105210700c6722bea91", func := "caravan/caravanlaw07.GearLocal", spec := "gearLocal", named := ["caravan/hash.initialWords", "caravan/hash.roundWords"], apart := false, laid := [("caravan/hash.initialWords", laid_caravan_hash_initialWords), ("caravan/hash.roundWords", laid_caravan_hash_roundWords)], narrowed := true }
def GearLocalUptoSaid : Prop := gearLocalUptoRow.holds Tryd.pinned (OpenSpec.upto gearLocalSpec)

/-- 'caravanlaw07.GearMasks', WHERE WHAT IT READS IS OF BULK AT MOST 1048576: true; the input reads as it did. -/
def gearMasksUptoRow : OpenClaim := { program := "ytbjeiiofanpkdaadoor", sum := "83eb57168262ae1bb0e3c87d8c624bf1a819bc5daacea105210700c6722bea91", func := "caravan/caravanlaw07.GearMasks", spec := "gearMasks", named := ["caravan/hash.initialWords", "caravan/hash.roundWords"], apart := false, laid := [("caravan/hash.initialWords", laid_caravan_hash_initialWords), ("caravan/hash.roundWords", laid_caravan_hash_roundWords)], narrowed := true }
def GearMasksUptoSaid : Prop := gearMasksUptoRow.holds Tryd.pinned (OpenSpec.upto gearMasksSpec)

/-- 'caravanlaw08.CutterCuts', WHERE WHAT IT READS IS OF BULK AT MOST 1048576: true; the input reads as it did. -/
def cutterCutsUptoRow : OpenClaim := { program := "ytbjeiiofanpkdaadoor", sum := "83eb57168262ae1bb0e3c87d8c624bf1a819bc5daacea105210700c6722bea91", func := "caravan/caravanlaw08.CutterCuts", spec := "cutterCuts", unfollowed := true, recurses := true, named := ["caravan/hash.initialWords", "caravan/hash.roundWords"], apart := false, laid := [("caravan/hash.initialWords", laid_caravan_hash_initialWords), ("caravan/hash.roundWords", laid_caravan_hash_roundWords)], narrowed := true }
def CutterCutsUptoSaid : Prop := cutterCutsUptoRow.holds Tryd.pinned (OpenSpec.upto cutterCutsSpec)

/-- 'caravanlaw08.CutterParts', WHERE WHAT IT READS IS OF BULK AT MOST 1048576: true; the input reads as it did. -/
def cutterPartsUptoRow : OpenClaim := { program := "ytbjeiiofanpkdaadoor", sum := "83eb57168262ae1bb0e3c87d8c624bf1a819bc5daacea105210700c6722bea91", func := "caravan/caravanlaw08.CutterParts", spec := "cutterParts", unfollowed := true, recurses := true, named := ["caravan/hash.initialWords", "caravan/hash.roundWords"], apart := false, laid := [("caravan/hash.initialWords", laid_caravan_hash_initialWords), ("caravan/hash.roundWords", laid_caravan_hash_roundWords)], narrowed := true }
def CutterPartsUptoSaid : Prop := cutterPartsUptoRow.holds Tryd.pinned (OpenSpec.upto cutterPartsSpec)

/-- 'caravanlaw08.CutterSizes', WHERE WHAT IT READS IS OF BULK AT MOST 1048576: true; the input reads as it did. -/
def cutterSizesUptoRow : OpenClaim := { program := "ytbjeiiofanpkdaadoor", sum := "83eb57168262ae1bb0e3c87d8c624bf1a819bc5daacea105210700c6722bea91", func := "caravan/caravanlaw08.CutterSizes", spec := "cutterSizes", unfollowed := true, recurses := true, named := ["caravan/hash.initialWords", "caravan/hash.roundWords"], apart := false, laid := [("caravan/hash.initialWords", laid_caravan_hash_initialWords), ("caravan/hash.roundWords", laid_caravan_hash_roundWords)], narrowed := true }
def CutterSizesUptoSaid : Prop := cutterSizesUptoRow.holds Tryd.pinned (OpenSpec.upto cutterSizesSpec)

/-- 'caravanlaw08.CutterLocal', WHERE WHAT IT READS IS OF BULK AT MOST 1048576: true; the input reads as it did. -/
def cutterLocalUptoRow : OpenClaim := { program := "ytbjeiiofanpkdaadoor", sum := "83eb57168262ae1bb0e3c87d8c624bf1a819bc5daacea105210700c6722bea91", func := "caravan/caravanlaw08.CutterLocal", spec := "cutterLocal", unfollowed := true, recurses := true, named := ["caravan/hash.initialWords", "caravan/hash.roundWords"], apart := false, laid := [("caravan/hash.initialWords", laid_caravan_hash_initialWords), ("caravan/hash.roundWords", laid_caravan_hash_roundWords)], narrowed := true }
def CutterLocalUptoSaid : Prop := cutterLocalUptoRow.holds Tryd.pinned (OpenSpec.upto cutterLocalSpec)

/-- 'caravanlaw08.CutterAgain', WHERE WHAT IT READS IS OF BULK AT MOST 1048576: true; the input reads as it did. -/
def cutterAgainUptoRow : OpenClaim := { program := "ytbjeiiofanpkdaadoor", sum := "83eb57168262ae1bb0e3c87d8c624bf1a819bc5daacea105210700c6722bea91", func := "caravan/caravanlaw08.CutterAgain", spec := "cutterAgain", unfollowed := true, recurses := true, named := ["caravan/hash.initialWords", "caravan/hash.roundWords"], apart := false, laid := [("caravan/hash.initialWords", laid_caravan_hash_initialWords), ("caravan/hash.roundWords", laid_caravan_hash_roundWords)], narrowed := true }
def CutterAgainUptoSaid : Prop := cutterAgainUptoRow.holds Tryd.pinned (OpenSpec.upto cutterAgainSpec)

end Rows
end Go.Proofs.YtbjeiiofanpkdaaDoor
