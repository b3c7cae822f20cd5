/-
  NARROWER THAN 'FOR EVERY INPUT', by the rows' own cells (each row's printed sentence says how): ShaSums: laid · ShaParts: laid · ShaNames: laid · ShaBack: laid · FrameSeals: laid · FrameOpens: laid · FrameCuts: laid · FrameBehind: laid · FrameTurns: laid · FrameLong: laid.
  DERIVED. THE GIVEN ROWS OF THIS SEAT. 10 by the template 'for every input the law returns true; each argument reads behind the call as it read before'; 0 by the template 'total and deterministic' (their statements: YthnfjkinliekoaaDoorTotals.lean).
  GIVEN WITH THE SEED: the statements are not yours to turn. If you find one false, say at which input.
  Laid BY PROGRAM, IN A SANDBOX (cutbox-rows.mjs): the forced cells as the released guide's own fill.sh prints them over the translation 7fa105442aa76faa… (all of the seat's roots in one cut). By AI agents, Wed Nov 11 2026. No macro, syntax, notation, axiom, sorry.
-/
import Derived.Test.YthnfjkinliekoaaDoorChecked
import GoSem.Claim
import GoSem.ClaimJoined
import GoSem.ClaimMapViews
import Derived.JoinedTies
import Derived.KernelRfl
namespace Go.Proofs.YthnfjkinliekoaaDoor
/- THE CELL 'sum', in the pinned program and in every row, IS THE sha256 OF THE DUMP (.gsa) THAT YthnfjkinliekoaaDoorProg.lean LOADS. Nothing in Lean hashes anything: it is a label: what it is worth is what the hold of that sum in a sandbox is worth. -/
noncomputable def Tryd.pinned : Pinned := { name := "ythnfjkinliekoaadoor", sum := "7fa105442aa76faa34f39b1aeaa30311bf3a62da84c1dfea210cdeb954c67e89", checked := Tryd.checked }
namespace Rows
def none {H : Type} : Left H := { results := [], args := [] }

/- WHAT THE LISTED PACKAGE-LEVEL VARIABLES READ AS WHEN THE CALL BEGINS. Each datum BY PROGRAM (the guide's laid-datum.mjs) off the statement by which the dump's own 'gosem.cut.vars' lays the variable. In a bare row this is a premise. The card (YthnfjkinliekoaaDoorCards.lean) ties it to the program's text. -/
def laid_redoubt_sha_roots {H : Type} : DataW H := .agg [.lit (.int .u32 1116352408), .lit (.int .u32 1899447441), .lit (.int .u32 3049323471), .lit (.int .u32 3921009573), .lit (.int .u32 961987163), .lit (.int .u32 1508970993), .lit (.int .u32 2453635748), .lit (.int .u32 2870763221), .lit (.int .u32 3624381080), .lit (.int .u32 310598401), .lit (.int .u32 607225278), .lit (.int .u32 1426881987), .lit (.int .u32 1925078388), .lit (.int .u32 2162078206), .lit (.int .u32 2614888103), .lit (.int .u32 3248222580), .lit (.int .u32 3835390401), .lit (.int .u32 4022224774), .lit (.int .u32 264347078), .lit (.int .u32 604807628), .lit (.int .u32 770255983), .lit (.int .u32 1249150122), .lit (.int .u32 1555081692), .lit (.int .u32 1996064986), .lit (.int .u32 2554220882), .lit (.int .u32 2821834349), .lit (.int .u32 2952996808), .lit (.int .u32 3210313671), .lit (.int .u32 3336571891), .lit (.int .u32 3584528711), .lit (.int .u32 113926993), .lit (.int .u32 338241895), .lit (.int .u32 666307205), .lit (.int .u32 773529912), .lit (.int .u32 1294757372), .lit (.int .u32 1396182291), .lit (.int .u32 1695183700), .lit (.int .u32 1986661051), .lit (.int .u32 2177026350), .lit (.int .u32 2456956037), .lit (.int .u32 2730485921), .lit (.int .u32 2820302411), .lit (.int .u32 3259730800), .lit (.int .u32 3345764771), .lit (.int .u32 3516065817), .lit (.int .u32 3600352804), .lit (.int .u32 4094571909), .lit (.int .u32 275423344), .lit (.int .u32 430227734), .lit (.int .u32 506948616), .lit (.int .u32 659060556), .lit (.int .u32 883997877), .lit (.int .u32 958139571), .lit (.int .u32 1322822218), .lit (.int .u32 1537002063), .lit (.int .u32 1747873779), .lit (.int .u32 1955562222), .lit (.int .u32 2024104815), .lit (.int .u32 2227730452), .lit (.int .u32 2361852424), .lit (.int .u32 2428436474), .lit (.int .u32 2756734187), .lit (.int .u32 3204031479), .lit (.int .u32 3329325298)]
def laid_redoubt_crc_turned {H : Type} : DataW H := .agg [.lit (.int .u32 0), .lit (.int .u32 498536548), .lit (.int .u32 997073096), .lit (.int .u32 651767980), .lit (.int .u32 1994146192), .lit (.int .u32 1802195444), .lit (.int .u32 1303535960), .lit (.int .u32 1342533948), .lit (.int .u32 3988292384), .lit (.int .u32 4027552580), .lit (.int .u32 3604390888), .lit (.int .u32 3412177804), .lit (.int .u32 2607071920), .lit (.int .u32 2262029012), .lit (.int .u32 2685067896), .lit (.int .u32 3183342108)]

/-- 'redoubtlaw03.ShaSums': WHATEVER THE INPUT: true; the input reads as it did. -/
def shaSumsSpec : ChangeSpec := { name := "shaSums", fn := fun _ => fun
  | [d] => { results := [.lit (.bool true)], args := [d] }
  | _ => none }
def shaSumsRow : OpenClaim := { program := "ythnfjkinliekoaadoor", sum := "7fa105442aa76faa34f39b1aeaa30311bf3a62da84c1dfea210cdeb954c67e89", func := "redoubt/redoubtlaw03.ShaSums", spec := "shaSums", named := ["redoubt/sha.roots"], apart := false, laid := [("redoubt/sha.roots", laid_redoubt_sha_roots)] }
def ShaSumsSaid : Prop := shaSumsRow.holds Tryd.pinned (OpenSpec.ofChange shaSumsSpec)

/-- ITS FALSE NEIGHBOUR: 'it returns false'. Refute it at one input. -/
def shaSumsWrong : ChangeSpec := { name := "shaSums", fn := fun _ => fun
  | [d] => { results := [.lit (.bool false)], args := [d] }
  | _ => none }
def ShaSumsWrongFalsely : Prop := shaSumsRow.holds Tryd.pinned (OpenSpec.ofChange shaSumsWrong)

/-- 'redoubtlaw03.ShaParts': WHATEVER THE INPUT: true; the input reads as it did. -/
def shaPartsSpec : ChangeSpec := { name := "shaParts", fn := fun _ => fun
  | [d1, d2, d3] => { results := [.lit (.bool true)], args := [d1, d2, d3] }
  | _ => none }
def shaPartsRow : OpenClaim := { program := "ythnfjkinliekoaadoor", sum := "7fa105442aa76faa34f39b1aeaa30311bf3a62da84c1dfea210cdeb954c67e89", func := "redoubt/redoubtlaw03.ShaParts", spec := "shaParts", named := ["redoubt/sha.roots"], apart := false, laid := [("redoubt/sha.roots", laid_redoubt_sha_roots)] }
def ShaPartsSaid : Prop := shaPartsRow.holds Tryd.pinned (OpenSpec.ofChange shaPartsSpec)

/-- ITS FALSE NEIGHBOUR: 'it returns false'. Refute it at one input. -/
def shaPartsWrong : ChangeSpec := { name := "shaParts", fn := fun _ => fun
  | [d1, d2, d3] => { results := [.lit (.bool false)], args := [d1, d2, d3] }
  | _ => none }
def ShaPartsWrongFalsely : Prop := shaPartsRow.holds Tryd.pinned (OpenSpec.ofChange shaPartsWrong)

/-- 'redoubtlaw03.ShaNames': WHATEVER THE INPUT: true; the input reads as it did. -/
def shaNamesSpec : ChangeSpec := { name := "shaNames", fn := fun _ => fun
  | [d1, d2] => { results := [.lit (.bool true)], args := [d1, d2] }
  | _ => none }
def shaNamesRow : OpenClaim := { program := "ythnfjkinliekoaadoor", sum := "7fa105442aa76faa34f39b1aeaa30311bf3a62da84c1dfea210cdeb954c67e89", func := "redoubt/redoubtlaw03.ShaNames", spec := "shaNames", named := ["redoubt/sha.roots"], apart := false, laid := [("redoubt/sha.roots", laid_redoubt_sha_roots)] }
def ShaNamesSaid : Prop := shaNamesRow.holds Tryd.pinned (OpenSpec.ofChange shaNamesSpec)

/-- ITS FALSE NEIGHBOUR: 'it returns false'. Refute it at one input. -/
def shaNamesWrong : ChangeSpec := { name := "shaNames", fn := fun _ => fun
  | [d1, d2] => { results := [.lit (.bool false)], args := [d1, d2] }
  | _ => none }
def ShaNamesWrongFalsely : Prop := shaNamesRow.holds Tryd.pinned (OpenSpec.ofChange shaNamesWrong)

/-- 'redoubtlaw03.ShaBack': WHATEVER THE INPUT: true; the input reads as it did. -/
def shaBackSpec : ChangeSpec := { name := "shaBack", fn := fun _ => fun
  | [d1, d2] => { results := [.lit (.bool true)], args := [d1, d2] }
  | _ => none }
def shaBackRow : OpenClaim := { program := "ythnfjkinliekoaadoor", sum := "7fa105442aa76faa34f39b1aeaa30311bf3a62da84c1dfea210cdeb954c67e89", func := "redoubt/redoubtlaw03.ShaBack", spec := "shaBack", named := ["redoubt/sha.roots"], apart := false, laid := [("redoubt/sha.roots", laid_redoubt_sha_roots)] }
def ShaBackSaid : Prop := shaBackRow.holds Tryd.pinned (OpenSpec.ofChange shaBackSpec)

/-- ITS FALSE NEIGHBOUR: 'it returns false'. Refute it at one input. -/
def shaBackWrong : ChangeSpec := { name := "shaBack", fn := fun _ => fun
  | [d1, d2] => { results := [.lit (.bool false)], args := [d1, d2] }
  | _ => none }
def ShaBackWrongFalsely : Prop := shaBackRow.holds Tryd.pinned (OpenSpec.ofChange shaBackWrong)

/-- 'redoubtlaw04.FrameSeals': WHATEVER THE INPUT: true; the input reads as it did. -/
def frameSealsSpec : ChangeSpec := { name := "frameSeals", fn := fun _ => fun
  | [d] => { results := [.lit (.bool true)], args := [d] }
  | _ => none }
def frameSealsRow : OpenClaim := { program := "ythnfjkinliekoaadoor", sum := "7fa105442aa76faa34f39b1aeaa30311bf3a62da84c1dfea210cdeb954c67e89", func := "redoubt/redoubtlaw04.FrameSeals", spec := "frameSeals", inPlace := ["internal/abi.NoEscape"], unfollowed := true, recurses := true, named := ["redoubt/crc.turned"], apart := false, laid := [("redoubt/crc.turned", laid_redoubt_crc_turned)] }
def FrameSealsSaid : Prop := frameSealsRow.holds Tryd.pinned (OpenSpec.ofChange frameSealsSpec)

/-- ITS FALSE NEIGHBOUR: 'it returns false'. Refute it at one input. -/
def frameSealsWrong : ChangeSpec := { name := "frameSeals", fn := fun _ => fun
  | [d] => { results := [.lit (.bool false)], args := [d] }
  | _ => none }
def FrameSealsWrongFalsely : Prop := frameSealsRow.holds Tryd.pinned (OpenSpec.ofChange frameSealsWrong)

/-- 'redoubtlaw04.FrameOpens': WHATEVER THE INPUT: true; the input reads as it did. -/
def frameOpensSpec : ChangeSpec := { name := "frameOpens", fn := fun _ => fun
  | [d] => { results := [.lit (.bool true)], args := [d] }
  | _ => none }
def frameOpensRow : OpenClaim := { program := "ythnfjkinliekoaadoor", sum := "7fa105442aa76faa34f39b1aeaa30311bf3a62da84c1dfea210cdeb954c67e89", func := "redoubt/redoubtlaw04.FrameOpens", spec := "frameOpens", inPlace := ["internal/abi.NoEscape"], unfollowed := true, recurses := true, named := ["redoubt/crc.turned"], apart := false, laid := [("redoubt/crc.turned", laid_redoubt_crc_turned)] }
def FrameOpensSaid : Prop := frameOpensRow.holds Tryd.pinned (OpenSpec.ofChange frameOpensSpec)

/-- ITS FALSE NEIGHBOUR: 'it returns false'. Refute it at one input. -/
def frameOpensWrong : ChangeSpec := { name := "frameOpens", fn := fun _ => fun
  | [d] => { results := [.lit (.bool false)], args := [d] }
  | _ => none }
def FrameOpensWrongFalsely : Prop := frameOpensRow.holds Tryd.pinned (OpenSpec.ofChange frameOpensWrong)

/-- 'redoubtlaw04.FrameCuts': WHATEVER THE INPUT: true; the input reads as it did. -/
def frameCutsSpec : ChangeSpec := { name := "frameCuts", fn := fun _ => fun
  | [d1, d2] => { results := [.lit (.bool true)], args := [d1, d2] }
  | _ => none }
def frameCutsRow : OpenClaim := { program := "ythnfjkinliekoaadoor", sum := "7fa105442aa76faa34f39b1aeaa30311bf3a62da84c1dfea210cdeb954c67e89", func := "redoubt/redoubtlaw04.FrameCuts", spec := "frameCuts", inPlace := ["internal/abi.NoEscape"], unfollowed := true, recurses := true, named := ["redoubt/crc.turned"], apart := false, laid := [("redoubt/crc.turned", laid_redoubt_crc_turned)] }
def FrameCutsSaid : Prop := frameCutsRow.holds Tryd.pinned (OpenSpec.ofChange frameCutsSpec)

/-- ITS FALSE NEIGHBOUR: 'it returns false'. Refute it at one input. -/
def frameCutsWrong : ChangeSpec := { name := "frameCuts", fn := fun _ => fun
  | [d1, d2] => { results := [.lit (.bool false)], args := [d1, d2] }
  | _ => none }
def FrameCutsWrongFalsely : Prop := frameCutsRow.holds Tryd.pinned (OpenSpec.ofChange frameCutsWrong)

/-- 'redoubtlaw04.FrameBehind': WHATEVER THE INPUT: true; the input reads as it did. -/
def frameBehindSpec : ChangeSpec := { name := "frameBehind", fn := fun _ => fun
  | [d1, d2] => { results := [.lit (.bool true)], args := [d1, d2] }
  | _ => none }
def frameBehindRow : OpenClaim := { program := "ythnfjkinliekoaadoor", sum := "7fa105442aa76faa34f39b1aeaa30311bf3a62da84c1dfea210cdeb954c67e89", func := "redoubt/redoubtlaw04.FrameBehind", spec := "frameBehind", inPlace := ["internal/abi.NoEscape"], unfollowed := true, recurses := true, named := ["redoubt/crc.turned"], apart := false, laid := [("redoubt/crc.turned", laid_redoubt_crc_turned)] }
def FrameBehindSaid : Prop := frameBehindRow.holds Tryd.pinned (OpenSpec.ofChange frameBehindSpec)

/-- ITS FALSE NEIGHBOUR: 'it returns false'. Refute it at one input. -/
def frameBehindWrong : ChangeSpec := { name := "frameBehind", fn := fun _ => fun
  | [d1, d2] => { results := [.lit (.bool false)], args := [d1, d2] }
  | _ => none }
def FrameBehindWrongFalsely : Prop := frameBehindRow.holds Tryd.pinned (OpenSpec.ofChange frameBehindWrong)

/-- 'redoubtlaw04.FrameTurns': WHATEVER THE INPUT: true; the input reads as it did. -/
def frameTurnsSpec : ChangeSpec := { name := "frameTurns", fn := fun _ => fun
  | [d1, d2] => { results := [.lit (.bool true)], args := [d1, d2] }
  | _ => none }
def frameTurnsRow : OpenClaim := { program := "ythnfjkinliekoaadoor", sum := "7fa105442aa76faa34f39b1aeaa30311bf3a62da84c1dfea210cdeb954c67e89", func := "redoubt/redoubtlaw04.FrameTurns", spec := "frameTurns", inPlace := ["internal/abi.NoEscape"], unfollowed := true, recurses := true, named := ["redoubt/crc.turned"], apart := false, laid := [("redoubt/crc.turned", laid_redoubt_crc_turned)] }
def FrameTurnsSaid : Prop := frameTurnsRow.holds Tryd.pinned (OpenSpec.ofChange frameTurnsSpec)

/-- ITS FALSE NEIGHBOUR: 'it returns false'. Refute it at one input. -/
def frameTurnsWrong : ChangeSpec := { name := "frameTurns", fn := fun _ => fun
  | [d1, d2] => { results := [.lit (.bool false)], args := [d1, d2] }
  | _ => none }
def FrameTurnsWrongFalsely : Prop := frameTurnsRow.holds Tryd.pinned (OpenSpec.ofChange frameTurnsWrong)

/-- 'redoubtlaw04.FrameLong': WHATEVER THE INPUT: true; the input reads as it did. -/
def frameLongSpec : ChangeSpec := { name := "frameLong", fn := fun _ => fun
  | [d] => { results := [.lit (.bool true)], args := [d] }
  | _ => none }
def frameLongRow : OpenClaim := { program := "ythnfjkinliekoaadoor", sum := "7fa105442aa76faa34f39b1aeaa30311bf3a62da84c1dfea210cdeb954c67e89", func := "redoubt/redoubtlaw04.FrameLong", spec := "frameLong", inPlace := ["internal/abi.NoEscape"], unfollowed := true, recurses := true, named := ["redoubt/crc.turned"], apart := false, laid := [("redoubt/crc.turned", laid_redoubt_crc_turned)] }
def FrameLongSaid : Prop := frameLongRow.holds Tryd.pinned (OpenSpec.ofChange frameLongSpec)

/-- ITS FALSE NEIGHBOUR: 'it returns false'. Refute it at one input. -/
def frameLongWrong : ChangeSpec := { name := "frameLong", fn := fun _ => fun
  | [d] => { results := [.lit (.bool false)], args := [d] }
  | _ => none }
def FrameLongWrongFalsely : Prop := frameLongRow.holds Tryd.pinned (OpenSpec.ofChange frameLongWrong)

/- THE SECOND FORM. 'bulk': how many values and letters a reading holds, each counted each time it is reached (what is shared counts as often as it is met; a slice's spare places count too). A statement '..UptoSaid' is the law's where the arguments, and the package variables that the reading takes, are together of bulk at most 1048576: NARROWER than '..Said'. Prove '..Said' where nothing that the law and all that it calls make is longer than what came in: it says more and counts as full. Else prove '..UptoSaid'. A law counts once. -/
mutual
def uptoBulk {H : Type} : DataW H → Nat
  | .lit (.string bytes) => bytes.length + 1
  | .lit _ => 1
  | .nil => 1
  | .ptr d => uptoBulk d + 1
  | .slice elems spare => uptoBulkAll elems + uptoBulkAll spare + 1
  | .agg parts => uptoBulkAll parts + 1
  | .iface _ d => uptoBulk d + 1
  | .map entries => uptoBulkEntries entries + 1
  | .held _ => 1
def uptoBulkAll {H : Type} : List (DataW H) → Nat
  | [] => 0
  | d :: r => uptoBulk d + uptoBulkAll r
def uptoBulkEntries {H : Type} : List (Lit × DataW H) → Nat
  | [] => 0
  | x :: r => uptoBulkEntry x + uptoBulkEntries r
def uptoBulkEntry {H : Type} : Lit × DataW H → Nat
  | (.string bytes, d) => bytes.length + uptoBulk d + 1
  | (_, d) => uptoBulk d + 1
 end
def uptoSmall : (H : Type) → List (DataW H) → Bool := fun _ ds => decide (uptoBulkAll ds ≤ 1048576)
def OpenSpec.upto (s : _root_.Go.ChangeSpec) : _root_.Go.OpenSpec := { _root_.Go.OpenSpec.ofChange s with cond := some uptoSmall }

/-- 'redoubtlaw03.ShaSums', WHERE WHAT IT READS IS OF BULK AT MOST 1048576: true; the input reads as it did. -/
def shaSumsUptoRow : OpenClaim := { program := "ythnfjkinliekoaadoor", sum := "7fa105442aa76faa34f39b1aeaa30311bf3a62da84c1dfea210cdeb954c67e89", func := "redoubt/redoubtlaw03.ShaSums", spec := "shaSums", named := ["redoubt/sha.roots"], apart := false, laid := [("redoubt/sha.roots", laid_redoubt_sha_roots)], narrowed := true }
def ShaSumsUptoSaid : Prop := shaSumsUptoRow.holds Tryd.pinned (OpenSpec.upto shaSumsSpec)

/-- 'redoubtlaw03.ShaParts', WHERE WHAT IT READS IS OF BULK AT MOST 1048576: true; the input reads as it did. -/
def shaPartsUptoRow : OpenClaim := { program := "ythnfjkinliekoaadoor", sum := "7fa105442aa76faa34f39b1aeaa30311bf3a62da84c1dfea210cdeb954c67e89", func := "redoubt/redoubtlaw03.ShaParts", spec := "shaParts", named := ["redoubt/sha.roots"], apart := false, laid := [("redoubt/sha.roots", laid_redoubt_sha_roots)], narrowed := true }
def ShaPartsUptoSaid : Prop := shaPartsUptoRow.holds Tryd.pinned (OpenSpec.upto shaPartsSpec)

/-- 'redoubtlaw03.ShaNames', WHERE WHAT IT READS IS OF BULK AT MOST 1048576: true; the input reads as it did. -/
def shaNamesUptoRow : OpenClaim := { program := "ythnfjkinliekoaadoor", sum := "7fa105442aa76faa34f39b1aeaa30311bf3a62da84c1dfea210cdeb954c67e89", func := "redoubt/redoubtlaw03.ShaNames", spec := "shaNames", named := ["redoubt/sha.roots"], apart := false, laid := [("redoubt/sha.roots", laid_redoubt_sha_roots)], narrowed := true }
def ShaNamesUptoSaid : Prop := shaNamesUptoRow.holds Tryd.pinned (OpenSpec.upto shaNamesSpec)

/-- 'redoubtlaw03.ShaBack', WHERE WHAT IT READS IS OF BULK AT MOST 1048576: true; the input reads as it did. -/
def shaBackUptoRow : OpenClaim := { program := "ythnfjkinliekoaadoor", sum := "7fa105442aa76faa34f39b1aeaa30311bf3a62da84c1dfea210cdeb954c67e89", func := "redoubt/redoubtlaw03.ShaBack", spec := "shaBack", named := ["redoubt/sha.roots"], apart := false, laid := [("redoubt/sha.roots", laid_redoubt_sha_roots)], narrowed := true }
def ShaBackUptoSaid : Prop := shaBackUptoRow.holds Tryd.pinned (OpenSpec.upto shaBackSpec)

/-- 'redoubtlaw04.FrameSeals', WHERE WHAT IT READS IS OF BULK AT MOST 1048576: true; the input reads as it did. -/
def frameSealsUptoRow : OpenClaim := { program := "ythnfjkinliekoaadoor", sum := "7fa105442aa76faa34f39b1aeaa30311bf3a62da84c1dfea210cdeb954c67e89", func := "redoubt/redoubtlaw04.FrameSeals", spec := "frameSeals", inPlace := ["internal/abi.NoEscape"], unfollowed := true, recurses := true, named := ["redoubt/crc.turned"], apart := false, laid := [("redoubt/crc.turned", laid_redoubt_crc_turned)], narrowed := true }
def FrameSealsUptoSaid : Prop := frameSealsUptoRow.holds Tryd.pinned (OpenSpec.upto frameSealsSpec)

/-- 'redoubtlaw04.FrameOpens', WHERE WHAT IT READS IS OF BULK AT MOST 1048576: true; the input reads as it did. -/
def frameOpensUptoRow : OpenClaim := { program := "ythnfjkinliekoaadoor", sum := "7fa105442aa76faa34f39b1aeaa30311bf3a62da84c1dfea210cdeb954c67e89", func := "redoubt/redoubtlaw04.FrameOpens", spec := "frameOpens", inPlace := ["internal/abi.NoEscape"], unfollowed := true, recurses := true, named := ["redoubt/crc.turned"], apart := false, laid := [("redoubt/crc.turned", laid_redoubt_crc_turned)], narrowed := true }
def FrameOpensUptoSaid : Prop := frameOpensUptoRow.holds Tryd.pinned (OpenSpec.upto frameOpensSpec)

/-- 'redoubtlaw04.FrameCuts', WHERE WHAT IT READS IS OF BULK AT MOST 1048576: true; the input reads as it did. -/
def frameCutsUptoRow : OpenClaim := { program := "ythnfjkinliekoaadoor", sum := "7fa105442aa76faa34f39b1aeaa30311bf3a62da84c1dfea210cdeb954c67e89", func := "redoubt/redoubtlaw04.FrameCuts", spec := "frameCuts", inPlace := ["internal/abi.NoEscape"], unfollowed := true, recurses := true, named := ["redoubt/crc.turned"], apart := false, laid := [("redoubt/crc.turned", laid_redoubt_crc_turned)], narrowed := true }
def FrameCutsUptoSaid : Prop := frameCutsUptoRow.holds Tryd.pinned (OpenSpec.upto frameCutsSpec)

/-- 'redoubtlaw04.FrameBehind', WHERE WHAT IT READS IS OF BULK AT MOST 1048576: true; the input reads as it did. -/
def frameBehindUptoRow : OpenClaim := { program := "ythnfjkinliekoaadoor", sum := "7fa105442aa76faa34f39b1aeaa30311bf3a62da84c1dfea210cdeb954c67e89", func := "redoubt/redoubtlaw04.FrameBehind", spec := "frameBehind", inPlace := ["internal/abi.NoEscape"], unfollowed := true, recurses := true, named := ["redoubt/crc.turned"], apart := false, laid := [("redoubt/crc.turned", laid_redoubt_crc_turned)], narrowed := true }
def FrameBehindUptoSaid : Prop := frameBehindUptoRow.holds Tryd.pinned (OpenSpec.upto frameBehindSpec)

/-- 'redoubtlaw04.FrameTurns', WHERE WHAT IT READS IS OF BULK AT MOST 1048576: true; the input reads as it did. -/
def frameTurnsUptoRow : OpenClaim := { program := "ythnfjkinliekoaadoor", sum := "7fa105442aa76faa34f39b1aeaa30311bf3a62da84c1dfea210cdeb954c67e89", func := "redoubt/redoubtlaw04.FrameTurns", spec := "frameTurns", inPlace := ["internal/abi.NoEscape"], unfollowed := true, recurses := true, named := ["redoubt/crc.turned"], apart := false, laid := [("redoubt/crc.turned", laid_redoubt_crc_turned)], narrowed := true }
def FrameTurnsUptoSaid : Prop := frameTurnsUptoRow.holds Tryd.pinned (OpenSpec.upto frameTurnsSpec)

/-- 'redoubtlaw04.FrameLong', WHERE WHAT IT READS IS OF BULK AT MOST 1048576: true; the input reads as it did. -/
def frameLongUptoRow : OpenClaim := { program := "ythnfjkinliekoaadoor", sum := "7fa105442aa76faa34f39b1aeaa30311bf3a62da84c1dfea210cdeb954c67e89", func := "redoubt/redoubtlaw04.FrameLong", spec := "frameLong", inPlace := ["internal/abi.NoEscape"], unfollowed := true, recurses := true, named := ["redoubt/crc.turned"], apart := false, laid := [("redoubt/crc.turned", laid_redoubt_crc_turned)], narrowed := true }
def FrameLongUptoSaid : Prop := frameLongUptoRow.holds Tryd.pinned (OpenSpec.upto frameLongSpec)

end Rows
end Go.Proofs.YthnfjkinliekoaaDoor
