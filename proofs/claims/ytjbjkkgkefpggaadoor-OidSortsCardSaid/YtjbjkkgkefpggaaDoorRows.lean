/-
  NARROWER THAN 'FOR EVERY INPUT', by the rows' own cells (each row's printed sentence says how): HashOf: laid · HashParts: laid · HashLong: laid · HashMore: laid · OidNear: laid · OidDistance: laid · OidTexts: laid · OidTakes: laid · OidSorts: laid.
  DERIVED. THE GIVEN ROWS OF THIS SEAT. 9 by the template 'for every input the law returns true; each argument reads behind the call as it read before'; 0 by the template 'total and deterministic' (their statements: YtjbjkkgkefpggaaDoorTotals.lean).
  GIVEN WITH THE SEED: the statements are not yours to turn. If you find one false, say at which input.
  Laid BY PROGRAM, IN A SANDBOX (cutbox-rows.mjs): the forced cells as the released guide's own fill.sh prints them over the translation cd714071b02900ed… (all of the seat's roots in one cut). By AI agents, Wed Nov 11 2026. No macro, syntax, notation, axiom, sorry.
-/
import Derived.Test.YtjbjkkgkefpggaaDoorChecked
import GoSem.Claim
import GoSem.ClaimJoined
import GoSem.ClaimMapViews
import Derived.JoinedTies
import Derived.KernelRfl
namespace Go.Proofs.YtjbjkkgkefpggaaDoor
/- THE CELL 'sum', in the pinned program and in every row, IS THE sha256 OF THE DUMP (.gsa) THAT YtjbjkkgkefpggaaDoorProg.lean LOADS. Nothing in Lean hashes anything: it is a label: what it is worth is what the hold of that sum in a sandbox is worth. -/
noncomputable def Tryd.pinned : Pinned := { name := "ytjbjkkgkefpggaadoor", sum := "cd714071b02900ed31a6ccb4e42077be3643c5996adc89cc497ad80101ff9893", checked := Tryd.checked }
namespace Rows
def none {H : Type} : Left H := { results := [], args := [] }

/- WHAT THE LISTED PACKAGE-LEVEL VARIABLES READ AS WHEN THE CALL BEGINS. Each datum BY PROGRAM (the guide's laid-datum.mjs) off the statement by which the dump's own 'gosem.cut.vars' lays the variable. In a bare row this is a premise. The card (YtjbjkkgkefpggaaDoorCards.lean) ties it to the program's text. -/
def laid_caravan_hash_initialWords {H : Type} : DataW H := .agg [.lit (.int .u32 1779033703), .lit (.int .u32 3144134277), .lit (.int .u32 1013904242), .lit (.int .u32 2773480762), .lit (.int .u32 1359893119), .lit (.int .u32 2600822924), .lit (.int .u32 528734635), .lit (.int .u32 1541459225)]
def laid_caravan_hash_roundWords {H : Type} : DataW H := .agg [.lit (.int .u32 1116352408), .lit (.int .u32 1899447441), .lit (.int .u32 3049323471), .lit (.int .u32 3921009573), .lit (.int .u32 961987163), .lit (.int .u32 1508970993), .lit (.int .u32 2453635748), .lit (.int .u32 2870763221), .lit (.int .u32 3624381080), .lit (.int .u32 310598401), .lit (.int .u32 607225278), .lit (.int .u32 1426881987), .lit (.int .u32 1925078388), .lit (.int .u32 2162078206), .lit (.int .u32 2614888103), .lit (.int .u32 3248222580), .lit (.int .u32 3835390401), .lit (.int .u32 4022224774), .lit (.int .u32 264347078), .lit (.int .u32 604807628), .lit (.int .u32 770255983), .lit (.int .u32 1249150122), .lit (.int .u32 1555081692), .lit (.int .u32 1996064986), .lit (.int .u32 2554220882), .lit (.int .u32 2821834349), .lit (.int .u32 2952996808), .lit (.int .u32 3210313671), .lit (.int .u32 3336571891), .lit (.int .u32 3584528711), .lit (.int .u32 113926993), .lit (.int .u32 338241895), .lit (.int .u32 666307205), .lit (.int .u32 773529912), .lit (.int .u32 1294757372), .lit (.int .u32 1396182291), .lit (.int .u32 1695183700), .lit (.int .u32 1986661051), .lit (.int .u32 2177026350), .lit (.int .u32 2456956037), .lit (.int .u32 2730485921), .lit (.int .u32 2820302411), .lit (.int .u32 3259730800), .lit (.int .u32 3345764771), .lit (.int .u32 3516065817), .lit (.int .u32 3600352804), .lit (.int .u32 4094571909), .lit (.int .u32 275423344), .lit (.int .u32 430227734), .lit (.int .u32 506948616), .lit (.int .u32 659060556), .lit (.int .u32 883997877), .lit (.int .u32 958139571), .lit (.int .u32 1322822218), .lit (.int .u32 1537002063), .lit (.int .u32 1747873779), .lit (.int .u32 1955562222), .lit (.int .u32 2024104815), .lit (.int .u32 2227730452), .lit (.int .u32 2361852424), .lit (.int .u32 2428436474), .lit (.int .u32 2756734187), .lit (.int .u32 3204031479), .lit (.int .u32 3329325298)]

/-- 'caravanlaw01.HashOf': WHATEVER THE INPUT: true; the input reads as it did. -/
def hashOfSpec : ChangeSpec := { name := "hashOf", fn := fun _ => fun
  | [d] => { results := [.lit (.bool true)], args := [d] }
  | _ => none }
def hashOfRow : OpenClaim := { program := "ytjbjkkgkefpggaadoor", sum := "cd714071b02900ed31a6ccb4e42077be3643c5996adc89cc497ad80101ff9893", func := "caravan/caravanlaw01.HashOf", spec := "hashOf", named := ["caravan/hash.initialWords", "caravan/hash.roundWords"], apart := false, laid := [("caravan/hash.initialWords", laid_caravan_hash_initialWords), ("caravan/hash.roundWords", laid_caravan_hash_roundWords)] }
def HashOfSaid : Prop := hashOfRow.holds Tryd.pinned (OpenSpec.ofChange hashOfSpec)

/-- ITS FALSE NEIGHBOUR: 'it returns false'. Refute it at one input. -/
def hashOfWrong : ChangeSpec := { name := "hashOf", fn := fun _ => fun
  | [d] => { results := [.lit (.bool false)], args := [d] }
  | _ => none }
def HashOfWrongFalsely : Prop := hashOfRow.holds Tryd.pinned (OpenSpec.ofChange hashOfWrong)

/-- 'caravanlaw01.HashParts': WHATEVER THE INPUT: true; the input reads as it did. -/
def hashPartsSpec : ChangeSpec := { name := "hashParts", fn := fun _ => fun
  | [d1, d2] => { results := [.lit (.bool true)], args := [d1, d2] }
  | _ => none }
def hashPartsRow : OpenClaim := { program := "ytjbjkkgkefpggaadoor", sum := "cd714071b02900ed31a6ccb4e42077be3643c5996adc89cc497ad80101ff9893", func := "caravan/caravanlaw01.HashParts", spec := "hashParts", named := ["caravan/hash.initialWords", "caravan/hash.roundWords"], apart := false, laid := [("caravan/hash.initialWords", laid_caravan_hash_initialWords), ("caravan/hash.roundWords", laid_caravan_hash_roundWords)] }
def HashPartsSaid : Prop := hashPartsRow.holds Tryd.pinned (OpenSpec.ofChange hashPartsSpec)

/-- ITS FALSE NEIGHBOUR: 'it returns false'. Refute it at one input. -/
def hashPartsWrong : ChangeSpec := { name := "hashParts", fn := fun _ => fun
  | [d1, d2] => { results := [.lit (.bool false)], args := [d1, d2] }
  | _ => none }
def HashPartsWrongFalsely : Prop := hashPartsRow.holds Tryd.pinned (OpenSpec.ofChange hashPartsWrong)

/-- 'caravanlaw01.HashLong': WHATEVER THE INPUT: true; the input reads as it did. -/
def hashLongSpec : ChangeSpec := { name := "hashLong", fn := fun _ => fun
  | [d1, d2] => { results := [.lit (.bool true)], args := [d1, d2] }
  | _ => none }
def hashLongRow : OpenClaim := { program := "ytjbjkkgkefpggaadoor", sum := "cd714071b02900ed31a6ccb4e42077be3643c5996adc89cc497ad80101ff9893", func := "caravan/caravanlaw01.HashLong", spec := "hashLong", named := ["caravan/hash.initialWords", "caravan/hash.roundWords"], apart := false, laid := [("caravan/hash.initialWords", laid_caravan_hash_initialWords), ("caravan/hash.roundWords", laid_caravan_hash_roundWords)] }
def HashLongSaid : Prop := hashLongRow.holds Tryd.pinned (OpenSpec.ofChange hashLongSpec)

/-- ITS FALSE NEIGHBOUR: 'it returns false'. Refute it at one input. -/
def hashLongWrong : ChangeSpec := { name := "hashLong", fn := fun _ => fun
  | [d1, d2] => { results := [.lit (.bool false)], args := [d1, d2] }
  | _ => none }
def HashLongWrongFalsely : Prop := hashLongRow.holds Tryd.pinned (OpenSpec.ofChange hashLongWrong)

/-- 'caravanlaw01.HashMore': WHATEVER THE INPUT: true; the input reads as it did. -/
def hashMoreSpec : ChangeSpec := { name := "hashMore", fn := fun _ => fun
  | [d1, d2, d3] => { results := [.lit (.bool true)], args := [d1, d2, d3] }
  | _ => none }
def hashMoreRow : OpenClaim := { program := "ytjbjkkgkefpggaadoor", sum := "cd714071b02900ed31a6ccb4e42077be3643c5996adc89cc497ad80101ff9893", func := "caravan/caravanlaw01.HashMore", spec := "hashMore", named := ["caravan/hash.initialWords", "caravan/hash.roundWords"], apart := false, laid := [("caravan/hash.initialWords", laid_caravan_hash_initialWords), ("caravan/hash.roundWords", laid_caravan_hash_roundWords)] }
def HashMoreSaid : Prop := hashMoreRow.holds Tryd.pinned (OpenSpec.ofChange hashMoreSpec)

/-- ITS FALSE NEIGHBOUR: 'it returns false'. Refute it at one input. -/
def hashMoreWrong : ChangeSpec := { name := "hashMore", fn := fun _ => fun
  | [d1, d2, d3] => { results := [.lit (.bool false)], args := [d1, d2, d3] }
  | _ => none }
def HashMoreWrongFalsely : Prop := hashMoreRow.holds Tryd.pinned (OpenSpec.ofChange hashMoreWrong)

/-- 'caravanlaw02.OidNear': WHATEVER THE INPUT: true; the input reads as it did. -/
def oidNearSpec : ChangeSpec := { name := "oidNear", fn := fun _ => fun
  | [d1, d2, d3] => { results := [.lit (.bool true)], args := [d1, d2, d3] }
  | _ => none }
def oidNearRow : OpenClaim := { program := "ytjbjkkgkefpggaadoor", sum := "cd714071b02900ed31a6ccb4e42077be3643c5996adc89cc497ad80101ff9893", func := "caravan/caravanlaw02.OidNear", spec := "oidNear", inPlace := ["internal/bytealg.Compare"], named := ["caravan/hash.initialWords", "caravan/hash.roundWords"], apart := false, laid := [("caravan/hash.initialWords", laid_caravan_hash_initialWords), ("caravan/hash.roundWords", laid_caravan_hash_roundWords)] }
def OidNearSaid : Prop := oidNearRow.holds Tryd.pinned (OpenSpec.ofChange oidNearSpec)

/-- ITS FALSE NEIGHBOUR: 'it returns false'. Refute it at one input. -/
def oidNearWrong : ChangeSpec := { name := "oidNear", fn := fun _ => fun
  | [d1, d2, d3] => { results := [.lit (.bool false)], args := [d1, d2, d3] }
  | _ => none }
def OidNearWrongFalsely : Prop := oidNearRow.holds Tryd.pinned (OpenSpec.ofChange oidNearWrong)

/-- 'caravanlaw02.OidDistance': WHATEVER THE INPUT: true; the input reads as it did. -/
def oidDistanceSpec : ChangeSpec := { name := "oidDistance", fn := fun _ => fun
  | [d1, d2, d3] => { results := [.lit (.bool true)], args := [d1, d2, d3] }
  | _ => none }
def oidDistanceRow : OpenClaim := { program := "ytjbjkkgkefpggaadoor", sum := "cd714071b02900ed31a6ccb4e42077be3643c5996adc89cc497ad80101ff9893", func := "caravan/caravanlaw02.OidDistance", spec := "oidDistance", inPlace := ["internal/bytealg.Compare"], named := ["caravan/hash.initialWords", "caravan/hash.roundWords"], apart := false, laid := [("caravan/hash.initialWords", laid_caravan_hash_initialWords), ("caravan/hash.roundWords", laid_caravan_hash_roundWords)] }
def OidDistanceSaid : Prop := oidDistanceRow.holds Tryd.pinned (OpenSpec.ofChange oidDistanceSpec)

/-- ITS FALSE NEIGHBOUR: 'it returns false'. Refute it at one input. -/
def oidDistanceWrong : ChangeSpec := { name := "oidDistance", fn := fun _ => fun
  | [d1, d2, d3] => { results := [.lit (.bool false)], args := [d1, d2, d3] }
  | _ => none }
def OidDistanceWrongFalsely : Prop := oidDistanceRow.holds Tryd.pinned (OpenSpec.ofChange oidDistanceWrong)

/-- 'caravanlaw02.OidTexts': WHATEVER THE INPUT: true; the input reads as it did. -/
def oidTextsSpec : ChangeSpec := { name := "oidTexts", fn := fun _ => fun
  | [d1, d2] => { results := [.lit (.bool true)], args := [d1, d2] }
  | _ => none }
def oidTextsRow : OpenClaim := { program := "ytjbjkkgkefpggaadoor", sum := "cd714071b02900ed31a6ccb4e42077be3643c5996adc89cc497ad80101ff9893", func := "caravan/caravanlaw02.OidTexts", spec := "oidTexts", inPlace := ["internal/bytealg.IndexByteString", "internal/bytealg.Compare"], named := ["caravan/hash.initialWords", "caravan/hash.roundWords"], apart := false, laid := [("caravan/hash.initialWords", laid_caravan_hash_initialWords), ("caravan/hash.roundWords", laid_caravan_hash_roundWords)] }
def OidTextsSaid : Prop := oidTextsRow.holds Tryd.pinned (OpenSpec.ofChange oidTextsSpec)

/-- ITS FALSE NEIGHBOUR: 'it returns false'. Refute it at one input. -/
def oidTextsWrong : ChangeSpec := { name := "oidTexts", fn := fun _ => fun
  | [d1, d2] => { results := [.lit (.bool false)], args := [d1, d2] }
  | _ => none }
def OidTextsWrongFalsely : Prop := oidTextsRow.holds Tryd.pinned (OpenSpec.ofChange oidTextsWrong)

/-- 'caravanlaw02.OidTakes': WHATEVER THE INPUT: true; the input reads as it did. -/
def oidTakesSpec : ChangeSpec := { name := "oidTakes", fn := fun _ => fun
  | [d] => { results := [.lit (.bool true)], args := [d] }
  | _ => none }
def oidTakesRow : OpenClaim := { program := "ytjbjkkgkefpggaadoor", sum := "cd714071b02900ed31a6ccb4e42077be3643c5996adc89cc497ad80101ff9893", func := "caravan/caravanlaw02.OidTakes", spec := "oidTakes", inPlace := ["internal/bytealg.Compare"], named := ["caravan/hash.initialWords", "caravan/hash.roundWords"], apart := false, laid := [("caravan/hash.initialWords", laid_caravan_hash_initialWords), ("caravan/hash.roundWords", laid_caravan_hash_roundWords)] }
def OidTakesSaid : Prop := oidTakesRow.holds Tryd.pinned (OpenSpec.ofChange oidTakesSpec)

/-- ITS FALSE NEIGHBOUR: 'it returns false'. Refute it at one input. -/
def oidTakesWrong : ChangeSpec := { name := "oidTakes", fn := fun _ => fun
  | [d] => { results := [.lit (.bool false)], args := [d] }
  | _ => none }
def OidTakesWrongFalsely : Prop := oidTakesRow.holds Tryd.pinned (OpenSpec.ofChange oidTakesWrong)

/-- 'caravanlaw02.OidSorts': WHATEVER THE INPUT: true; the input reads as it did. -/
def oidSortsSpec : ChangeSpec := { name := "oidSorts", fn := fun _ => fun
  | [d1, d2, d3, d4] => { results := [.lit (.bool true)], args := [d1, d2, d3, d4] }
  | _ => none }
def oidSortsRow : OpenClaim := { program := "ytjbjkkgkefpggaadoor", sum := "cd714071b02900ed31a6ccb4e42077be3643c5996adc89cc497ad80101ff9893", func := "caravan/caravanlaw02.OidSorts", spec := "oidSorts", inPlace := ["internal/bytealg.Compare"], unfollowed := true, recurses := true, named := ["caravan/hash.initialWords", "caravan/hash.roundWords"], apart := false, laid := [("caravan/hash.initialWords", laid_caravan_hash_initialWords), ("caravan/hash.roundWords", laid_caravan_hash_roundWords)] }
def OidSortsSaid : Prop := oidSortsRow.holds Tryd.pinned (OpenSpec.ofChange oidSortsSpec)

/-- ITS FALSE NEIGHBOUR: 'it returns false'. Refute it at one input. -/
def oidSortsWrong : ChangeSpec := { name := "oidSorts", fn := fun _ => fun
  | [d1, d2, d3, d4] => { results := [.lit (.bool false)], args := [d1, d2, d3, d4] }
  | _ => none }
def OidSortsWrongFalsely : Prop := oidSortsRow.holds Tryd.pinned (OpenSpec.ofChange oidSortsWrong)

/- THE SECOND FORM. 'bulk': how many values and letters a reading holds, each counted each time it is reached (what is shared counts as often as it is met; a slice's spare places count too). A statement '..UptoSaid' is the law's where the arguments, and the package variables that the reading takes, are together of bulk at most 1048576: NARROWER than '..Said'. Prove '..Said' where nothing that the law and all that it calls make is longer than what came in: it says more and counts as full. Else prove '..UptoSaid'. A law counts once. -/
mutual
def uptoBulk {H : Type} : DataW H → Nat
  | .lit (.string bytes) => bytes.length + 1
  | .lit _ => 1
  | .nil => 1
  | .ptr d => uptoBulk d + 1
  | .slice elems spare => uptoBulkAll elems + uptoBulkAll spare + 1
  | .agg parts => uptoBulkAll parts + 1
  | .iface _ d => uptoBulk d + 1
  | .map entries => uptoBulkEntries entries + 1
  | .held _ => 1
def uptoBulkAll {H : Type} : List (DataW H) → Nat
  | [] => 0
  | d :: r => uptoBulk d + uptoBulkAll r
def uptoBulkEntries {H : Type} : List (Lit × DataW H) → Nat
  | [] => 0
  | x :: r => uptoBulkEntry x + uptoBulkEntries r
def uptoBulkEntry {H : Type} : Lit × DataW H → Nat
  | (.string bytes, d) => bytes.length + uptoBulk d + 1
  | (_, d) => uptoBulk d + 1
 end
def uptoSmall : (H : Type) → List (DataW H) → Bool := fun _ ds => decide (uptoBulkAll ds ≤ 1048576)
def OpenSpec.upto (s : _root_.Go.ChangeSpec) : _root_.Go.OpenSpec := { _root_.Go.OpenSpec.ofChange s with cond := some uptoSmall }

/-- 'caravanlaw01.HashOf', WHERE WHAT IT READS IS OF BULK AT MOST 1048576: true; the input reads as it did. -/
def hashOfUptoRow : OpenClaim := { program := "ytjbjkkgkefpggaadoor", sum := "cd714071b02900ed31a6ccb4e42077be3643c5996adc89cc497ad80101ff9893", func := "caravan/caravanlaw01.HashOf", spec := "hashOf", named := ["caravan/hash.initialWords", "caravan/hash.roundWords"], apart := false, laid := [("caravan/hash.initialWords", laid_caravan_hash_initialWords), ("caravan/hash.roundWords", laid_caravan_hash_roundWords)], narrowed := true }
def HashOfUptoSaid : Prop := hashOfUptoRow.holds Tryd.pinned (OpenSpec.upto hashOfSpec)

/-- 'caravanlaw01.HashParts', WHERE WHAT IT READS IS OF BULK AT MOST 1048576: true; the input reads as it did. -/
def hashPartsUptoRow : OpenClaim := { program := "ytjbjkkgkefpggaadoor", sum := "cd714071b02900ed31a6ccb4e42077be3643c5996adc89cc497ad80101ff9893", func := "caravan/caravanlaw01.HashParts", spec := "hashParts", named := ["caravan/hash.initialWords", "caravan/hash.roundWords"], apart := false, laid := [("caravan/hash.initialWords", laid_caravan_hash_initialWords), ("caravan/hash.roundWords", laid_caravan_hash_roundWords)], narrowed := true }
def HashPartsUptoSaid : Prop := hashPartsUptoRow.holds Tryd.pinned (OpenSpec.upto hashPartsSpec)

/-- 'caravanlaw01.HashLong', WHERE WHAT IT READS IS OF BULK AT MOST 1048576: true; the input reads as it did. -/
def hashLongUptoRow : OpenClaim := { program := "ytjbjkkgkefpggaadoor", sum := "cd714071b02900ed31a6ccb4e42077be3643c5996adc89cc497ad80101ff9893", func := "caravan/caravanlaw01.HashLong", spec := "hashLong", named := ["caravan/hash.initialWords", "caravan/hash.roundWords"], apart := false, laid := [("caravan/hash.initialWords", laid_caravan_hash_initialWords), ("caravan/hash.roundWords", laid_caravan_hash_roundWords)], narrowed := true }
def HashLongUptoSaid : Prop := hashLongUptoRow.holds Tryd.pinned (OpenSpec.upto hashLongSpec)

/-- 'caravanlaw01.HashMore', WHERE WHAT IT READS IS OF BULK AT MOST 1048576: true; the input reads as it did. -/
def hashMoreUptoRow : OpenClaim := { program := "ytjbjkkgkefpggaadoor", sum := "cd714071b02900ed31a6ccb4e42077be3643c5996adc89cc497ad80101ff9893", func := "caravan/caravanlaw01.HashMore", spec := "hashMore", named := ["caravan/hash.initialWords", "caravan/hash.roundWords"], apart := false, laid := [("caravan/hash.initialWords", laid_caravan_hash_initialWords), ("caravan/hash.roundWords", laid_caravan_hash_roundWords)], narrowed := true }
def HashMoreUptoSaid : Prop := hashMoreUptoRow.holds Tryd.pinned (OpenSpec.upto hashMoreSpec)

/-- 'caravanlaw02.OidNear', WHERE WHAT IT READS IS OF BULK AT MOST 1048576: true; the input reads as it did. -/
def oidNearUptoRow : OpenClaim := { program := "ytjbjkkgkefpggaadoor", sum := "cd714071b02900ed31a6ccb4e42077be3643c5996adc89cc497ad80101ff9893", func := "caravan/caravanlaw02.OidNear", spec := "oidNear", inPlace := ["internal/bytealg.Compare"], named := ["caravan/hash.initialWords", "caravan/hash.roundWords"], apart := false, laid := [("caravan/hash.initialWords", laid_caravan_hash_initialWords), ("caravan/hash.roundWords", laid_caravan_hash_roundWords)], narrowed := true }
def OidNearUptoSaid : Prop := oidNearUptoRow.holds Tryd.pinned (OpenSpec.upto oidNearSpec)

/-- 'caravanlaw02.OidDistance', WHERE WHAT IT READS IS OF BULK AT MOST 1048576: true; the input reads as it did. -/
def oidDistanceUptoRow : OpenClaim := { program := "ytjbjkkgkefpggaadoor", sum := "cd714071b02900ed31a6ccb4e42077be3643c5996adc89cc497ad80101ff9893", func := "caravan/caravanlaw02.OidDistance", spec := "oidDistance", inPlace := ["internal/bytealg.Compare"], named := ["caravan/hash.initialWords", "caravan/hash.roundWords"], apart := false, laid := [("caravan/hash.initialWords", laid_caravan_hash_initialWords), ("caravan/hash.roundWords", laid_caravan_hash_roundWords)], narrowed := true }
def OidDistanceUptoSaid : Prop := oidDistanceUptoRow.holds Tryd.pinned (OpenSpec.upto oidDistanceSpec)

/-- 'caravanlaw02.OidTexts', WHERE WHAT IT READS IS OF BULK AT MOST 1048576: true; the input reads as it did. -/
def oidTextsUptoRow : OpenClaim := { program := "ytjbjkkgkefpggaadoor", sum := "cd714071b02900ed31a6ccb4e42077be3643c5996adc89cc497ad80101ff9893", func := "caravan/caravanlaw02.OidTexts", spec := "oidTexts", inPlace := ["internal/bytealg.IndexByteString", "internal/bytealg.Compare"], named := ["caravan/hash.initialWords", "caravan/hash.roundWords"], apart := false, laid := [("caravan/hash.initialWords", laid_caravan_hash_initialWords), ("caravan/hash.roundWords", laid_caravan_hash_roundWords)], narrowed := true }
def OidTextsUptoSaid : Prop := oidTextsUptoRow.holds Tryd.pinned (OpenSpec.upto oidTextsSpec)

/-- 'caravanlaw02.OidTakes', WHERE WHAT IT READS IS OF BULK AT MOST 1048576: true; the input reads as it did. -/
def oidTakesUptoRow : OpenClaim := { program := "ytjbjkkgkefpggaadoor", sum := "cd714071b02900ed31a6ccb4e42077be3643c5996adc89cc497ad80101ff9893", func := "caravan/caravanlaw02.OidTakes", spec := "oidTakes", inPlace := ["internal/bytealg.Compare"], named := ["caravan/hash.initialWords", "caravan/hash.roundWords"], apart := false, laid := [("caravan/hash.initialWords", laid_caravan_hash_initialWords), ("caravan/hash.roundWords", laid_caravan_hash_roundWords)], narrowed := true }
def OidTakesUptoSaid : Prop := oidTakesUptoRow.holds Tryd.pinned (OpenSpec.upto oidTakesSpec)

/-- 'caravanlaw02.OidSorts', WHERE WHAT IT READS IS OF BULK AT MOST 1048576: true; the input reads as it did. -/
def oidSortsUptoRow : OpenClaim := { program := "ytjbjkkgkefpggaadoor", sum := "cd714071b02900ed31a6ccb4e42077be3643c5996adc89cc497ad80101ff9893", func := "caravan/caravanlaw02.OidSorts", spec := "oidSorts", inPlace := ["internal/bytealg.Compare"], unfollowed := true, recurses := true, named := ["caravan/hash.initialWords", "caravan/hash.roundWords"], apart := false, laid := [("caravan/hash.initialWords", laid_caravan_hash_initialWords), ("caravan/hash.roundWords", laid_caravan_hash_roundWords)], narrowed := true }
def OidSortsUptoSaid : Prop := oidSortsUptoRow.holds Tryd.pinned (OpenSpec.upto oidSortsSpec)

end Rows
end Go.Proofs.YtjbjkkgkefpggaaDoor
