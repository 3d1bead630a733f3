/-
  NARROWER THAN 'FOR EVERY INPUT', by the rows' own cells (each row's printed sentence says how): LocalRuns: laid · LocalWays: laid · LocalSums: loops, laid · LocalCounts: loops, laid · LocalMins: loops, laid · LocalMaxs: loops, laid.
  DERIVED. THE GIVEN ROWS OF THIS SEAT. 6 by the template 'for every input the law returns true; each argument reads behind the call as it read before'; 0 by the template 'total and deterministic' (their statements: YtaagllbcmgnbnaaGreatDoorTotals.lean).
  GIVEN WITH THE SEED: the statements are not yours to turn. If you find one false, say at which input.
  Laid BY PROGRAM, IN A SANDBOX (cutbox-rows.mjs): the forced cells as the released guide's own fill.sh prints them over the translation e9d030e7a1012293… (all of the seat's roots in one cut). By AI agents, Wed Nov 11 2026. No macro, syntax, notation, axiom, sorry.
-/
import Derived.Test.YtaagllbcmgnbnaaGreatDoorChecked
import GoSem.Claim
import GoSem.ClaimJoined
import GoSem.ClaimMapViews
import Derived.JoinedTies
import Derived.KernelRfl
namespace Go.Proofs.YtaagllbcmgnbnaaGreatDoor
/- THE CELL 'sum', in the pinned program and in every row, IS THE sha256 OF THE DUMP (.gsa) THAT YtaagllbcmgnbnaaGreatDoorProg.lean LOADS. Nothing in Lean hashes anything: it is a label: what it is worth is what the hold of that sum in a sandbox is worth. -/
noncomputable def Tryz.pinned : Pinned := { name := "ytaagllbcmgnbnaagreatdoor", sum := "e9d030e7a10122930d7e5e3ddfb4f15520bbcbd1ac3d250ef936bcbb92ce32ae", checked := Tryz.checked }
namespace Rows
def none {H : Type} : Left H := { results := [], args := [] }

/- WHAT THE LISTED PACKAGE-LEVEL VARIABLES READ AS WHEN THE CALL BEGINS. Each datum BY PROGRAM (the guide's laid-datum.mjs) off the statement by which the dump's own 'gosem.cut.vars' lays the variable. In a bare row this is a premise. The card (YtaagllbcmgnbnaaGreatDoorCards.lean) ties it to the program's text. -/
def laid_math_bits_deBruijn32tab {H : Type} : DataW H := .agg [.lit (.int .u8 0), .lit (.int .u8 1), .lit (.int .u8 28), .lit (.int .u8 2), .lit (.int .u8 29), .lit (.int .u8 14), .lit (.int .u8 24), .lit (.int .u8 3), .lit (.int .u8 30), .lit (.int .u8 22), .lit (.int .u8 20), .lit (.int .u8 15), .lit (.int .u8 25), .lit (.int .u8 17), .lit (.int .u8 4), .lit (.int .u8 8), .lit (.int .u8 31), .lit (.int .u8 27), .lit (.int .u8 13), .lit (.int .u8 23), .lit (.int .u8 21), .lit (.int .u8 19), .lit (.int .u8 16), .lit (.int .u8 7), .lit (.int .u8 26), .lit (.int .u8 12), .lit (.int .u8 18), .lit (.int .u8 6), .lit (.int .u8 11), .lit (.int .u8 5), .lit (.int .u8 10), .lit (.int .u8 9)]
def laid_math_bits_deBruijn64tab {H : Type} : DataW H := .agg [.lit (.int .u8 0), .lit (.int .u8 1), .lit (.int .u8 56), .lit (.int .u8 2), .lit (.int .u8 57), .lit (.int .u8 49), .lit (.int .u8 28), .lit (.int .u8 3), .lit (.int .u8 61), .lit (.int .u8 58), .lit (.int .u8 42), .lit (.int .u8 50), .lit (.int .u8 38), .lit (.int .u8 29), .lit (.int .u8 17), .lit (.int .u8 4), .lit (.int .u8 62), .lit (.int .u8 47), .lit (.int .u8 59), .lit (.int .u8 36), .lit (.int .u8 45), .lit (.int .u8 43), .lit (.int .u8 51), .lit (.int .u8 22), .lit (.int .u8 53), .lit (.int .u8 39), .lit (.int .u8 33), .lit (.int .u8 30), .lit (.int .u8 24), .lit (.int .u8 18), .lit (.int .u8 12), .lit (.int .u8 5), .lit (.int .u8 63), .lit (.int .u8 55), .lit (.int .u8 48), .lit (.int .u8 27), .lit (.int .u8 60), .lit (.int .u8 41), .lit (.int .u8 37), .lit (.int .u8 16), .lit (.int .u8 46), .lit (.int .u8 35), .lit (.int .u8 44), .lit (.int .u8 21), .lit (.int .u8 52), .lit (.int .u8 32), .lit (.int .u8 23), .lit (.int .u8 11), .lit (.int .u8 54), .lit (.int .u8 26), .lit (.int .u8 40), .lit (.int .u8 15), .lit (.int .u8 34), .lit (.int .u8 20), .lit (.int .u8 31), .lit (.int .u8 10), .lit (.int .u8 25), .lit (.int .u8 14), .lit (.int .u8 19), .lit (.int .u8 9), .lit (.int .u8 13), .lit (.int .u8 8), .lit (.int .u8 7), .lit (.int .u8 6)]
def laid_internal_strconv_uint64pow10 {H : Type} : DataW H := .agg [.lit (.int .u64 1), .lit (.int .u64 10), .lit (.int .u64 100), .lit (.int .u64 1000), .lit (.int .u64 10000), .lit (.int .u64 100000), .lit (.int .u64 1000000), .lit (.int .u64 10000000), .lit (.int .u64 100000000), .lit (.int .u64 1000000000), .lit (.int .u64 10000000000), .lit (.int .u64 100000000000), .lit (.int .u64 1000000000000), .lit (.int .u64 10000000000000), .lit (.int .u64 100000000000000), .lit (.int .u64 1000000000000000), .lit (.int .u64 10000000000000000), .lit (.int .u64 100000000000000000), .lit (.int .u64 1000000000000000000), .lit (.int .u64 10000000000000000000)]
def laid_thresher_sum_halves {H : Type} : DataW H := .agg [.lit (.int .u32 0), .lit (.int .u32 498536548), .lit (.int .u32 997073096), .lit (.int .u32 651767980), .lit (.int .u32 1994146192), .lit (.int .u32 1802195444), .lit (.int .u32 1303535960), .lit (.int .u32 1342533948), .lit (.int .u32 3988292384), .lit (.int .u32 4027552580), .lit (.int .u32 3604390888), .lit (.int .u32 3412177804), .lit (.int .u32 2607071920), .lit (.int .u32 2262029012), .lit (.int .u32 2685067896), .lit (.int .u32 3183342108)]
def laid_strconv_ErrRange {H : Type} : DataW H := .iface "*errors.errorString" (.ptr (.agg [.lit (.string [118, 97, 108, 117, 101, 32, 111, 117, 116, 32, 111, 102, 32, 114, 97, 110, 103, 101])]))
def laid_strconv_ErrSyntax {H : Type} : DataW H := .iface "*errors.errorString" (.ptr (.agg [.lit (.string [105, 110, 118, 97, 108, 105, 100, 32, 115, 121, 110, 116, 97, 120])]))
def laid_thresher_lang_words {H : Type} : DataW H := .agg [.lit (.string []), .lit (.string []), .lit (.string [97]), .lit (.string [108, 101, 110]), .lit (.string [118]), .lit (.string [43]), .lit (.string [45]), .lit (.string [42]), .lit (.string [47]), .lit (.string [37]), .lit (.string [38]), .lit (.string [124]), .lit (.string [94]), .lit (.string [60, 60]), .lit (.string [62, 62]), .lit (.string [62, 62, 62]), .lit (.string [60]), .lit (.string [61]), .lit (.string [110, 111, 116]), .lit (.string [117, 56]), .lit (.string [117, 49, 54]), .lit (.string [117, 51, 50]), .lit (.string [115, 56]), .lit (.string [115, 49, 54]), .lit (.string [115, 51, 50]), .lit (.string [100, 117, 112]), .lit (.string [115, 119, 97, 112]), .lit (.string [112, 111, 112]), .lit (.string [105, 102]), .lit (.string [114, 101, 112]), .lit (.string [101, 109, 105, 116])]

/-- 'thresherlaw13.LocalRuns': WHATEVER THE INPUT: true; the input reads as it did. -/
def localRunsSpec : ChangeSpec := { name := "localRuns", fn := fun _ => fun
  | [d] => { results := [.lit (.bool true)], args := [d] }
  | _ => none }
def localRunsRow : OpenClaim := { program := "ytaagllbcmgnbnaagreatdoor", sum := "e9d030e7a10122930d7e5e3ddfb4f15520bbcbd1ac3d250ef936bcbb92ce32ae", func := "thresher/thresherlaw13.LocalRuns", spec := "localRuns", inPlace := ["internal/bytealg.abigen_runtime_cmpstring", "internal/abi.NoEscape"], unfollowed := true, recurses := true, named := ["thresher/lang.words", "strconv.ErrSyntax", "strconv.ErrRange", "internal/strconv.uint64pow10", "math/bits.deBruijn32tab", "math/bits.deBruijn64tab", "thresher/sum.halves"], plainKeys := false, apart := false, laid := [("math/bits.deBruijn32tab", laid_math_bits_deBruijn32tab), ("math/bits.deBruijn64tab", laid_math_bits_deBruijn64tab), ("internal/strconv.uint64pow10", laid_internal_strconv_uint64pow10), ("thresher/sum.halves", laid_thresher_sum_halves), ("strconv.ErrRange", laid_strconv_ErrRange), ("strconv.ErrSyntax", laid_strconv_ErrSyntax), ("thresher/lang.words", laid_thresher_lang_words)] }
def LocalRunsSaid : Prop := localRunsRow.holds Tryz.pinned (OpenSpec.ofChange localRunsSpec)

/-- ITS FALSE NEIGHBOUR: 'it returns false'. Refute it at one input. -/
def localRunsWrong : ChangeSpec := { name := "localRuns", fn := fun _ => fun
  | [d] => { results := [.lit (.bool false)], args := [d] }
  | _ => none }
def LocalRunsWrongFalsely : Prop := localRunsRow.holds Tryz.pinned (OpenSpec.ofChange localRunsWrong)

/-- 'thresherlaw13.LocalWays': WHATEVER THE INPUT: true; the input reads as it did. -/
def localWaysSpec : ChangeSpec := { name := "localWays", fn := fun _ => fun
  | [d] => { results := [.lit (.bool true)], args := [d] }
  | _ => none }
def localWaysRow : OpenClaim := { program := "ytaagllbcmgnbnaagreatdoor", sum := "e9d030e7a10122930d7e5e3ddfb4f15520bbcbd1ac3d250ef936bcbb92ce32ae", func := "thresher/thresherlaw13.LocalWays", spec := "localWays", inPlace := ["internal/bytealg.abigen_runtime_cmpstring", "internal/abi.NoEscape"], unfollowed := true, recurses := true, named := ["thresher/lang.words", "strconv.ErrSyntax", "strconv.ErrRange", "internal/strconv.uint64pow10", "math/bits.deBruijn32tab", "math/bits.deBruijn64tab", "thresher/sum.halves"], plainKeys := false, apart := false, laid := [("math/bits.deBruijn32tab", laid_math_bits_deBruijn32tab), ("math/bits.deBruijn64tab", laid_math_bits_deBruijn64tab), ("internal/strconv.uint64pow10", laid_internal_strconv_uint64pow10), ("thresher/sum.halves", laid_thresher_sum_halves), ("strconv.ErrRange", laid_strconv_ErrRange), ("strconv.ErrSyntax", laid_strconv_ErrSyntax), ("thresher/lang.words", laid_thresher_lang_words)] }
def LocalWaysSaid : Prop := localWaysRow.holds Tryz.pinned (OpenSpec.ofChange localWaysSpec)

/-- ITS FALSE NEIGHBOUR: 'it returns false'. Refute it at one input. -/
def localWaysWrong : ChangeSpec := { name := "localWays", fn := fun _ => fun
  | [d] => { results := [.lit (.bool false)], args := [d] }
  | _ => none }
def LocalWaysWrongFalsely : Prop := localWaysRow.holds Tryz.pinned (OpenSpec.ofChange localWaysWrong)

/-- 'thresherlaw13.LocalSums': WHATEVER THE INPUT: true; the input reads as it did. -/
def localSumsSpec : ChangeSpec := { name := "localSums", fn := fun _ => fun
  | [d] => { results := [.lit (.bool true)], args := [d] }
  | _ => none }
def localSumsRow : OpenClaim := { program := "ytaagllbcmgnbnaagreatdoor", sum := "e9d030e7a10122930d7e5e3ddfb4f15520bbcbd1ac3d250ef936bcbb92ce32ae", func := "thresher/thresherlaw13.LocalSums", spec := "localSums", inPlace := ["internal/bytealg.abigen_runtime_cmpstring", "internal/abi.NoEscape"], unfollowed := true, recurses := true, named := ["thresher/lang.words", "strconv.ErrSyntax", "strconv.ErrRange", "internal/strconv.uint64pow10", "math/bits.deBruijn32tab", "math/bits.deBruijn64tab", "thresher/sum.halves"], loops := true, plainKeys := false, apart := false, laid := [("math/bits.deBruijn32tab", laid_math_bits_deBruijn32tab), ("math/bits.deBruijn64tab", laid_math_bits_deBruijn64tab), ("internal/strconv.uint64pow10", laid_internal_strconv_uint64pow10), ("thresher/sum.halves", laid_thresher_sum_halves), ("strconv.ErrRange", laid_strconv_ErrRange), ("strconv.ErrSyntax", laid_strconv_ErrSyntax), ("thresher/lang.words", laid_thresher_lang_words)] }
def LocalSumsSaid : Prop := localSumsRow.holds Tryz.pinned (OpenSpec.ofChange localSumsSpec)

/-- ITS FALSE NEIGHBOUR: 'it returns false'. Refute it at one input. -/
def localSumsWrong : ChangeSpec := { name := "localSums", fn := fun _ => fun
  | [d] => { results := [.lit (.bool false)], args := [d] }
  | _ => none }
def LocalSumsWrongFalsely : Prop := localSumsRow.holds Tryz.pinned (OpenSpec.ofChange localSumsWrong)

/-- 'thresherlaw13.LocalCounts': WHATEVER THE INPUT: true; the input reads as it did. -/
def localCountsSpec : ChangeSpec := { name := "localCounts", fn := fun _ => fun
  | [d] => { results := [.lit (.bool true)], args := [d] }
  | _ => none }
def localCountsRow : OpenClaim := { program := "ytaagllbcmgnbnaagreatdoor", sum := "e9d030e7a10122930d7e5e3ddfb4f15520bbcbd1ac3d250ef936bcbb92ce32ae", func := "thresher/thresherlaw13.LocalCounts", spec := "localCounts", inPlace := ["internal/bytealg.abigen_runtime_cmpstring", "internal/abi.NoEscape"], unfollowed := true, recurses := true, named := ["thresher/lang.words", "strconv.ErrSyntax", "strconv.ErrRange", "internal/strconv.uint64pow10", "math/bits.deBruijn32tab", "math/bits.deBruijn64tab", "thresher/sum.halves"], loops := true, plainKeys := false, apart := false, laid := [("math/bits.deBruijn32tab", laid_math_bits_deBruijn32tab), ("math/bits.deBruijn64tab", laid_math_bits_deBruijn64tab), ("internal/strconv.uint64pow10", laid_internal_strconv_uint64pow10), ("thresher/sum.halves", laid_thresher_sum_halves), ("strconv.ErrRange", laid_strconv_ErrRange), ("strconv.ErrSyntax", laid_strconv_ErrSyntax), ("thresher/lang.words", laid_thresher_lang_words)] }
def LocalCountsSaid : Prop := localCountsRow.holds Tryz.pinned (OpenSpec.ofChange localCountsSpec)

/-- ITS FALSE NEIGHBOUR: 'it returns false'. Refute it at one input. -/
def localCountsWrong : ChangeSpec := { name := "localCounts", fn := fun _ => fun
  | [d] => { results := [.lit (.bool false)], args := [d] }
  | _ => none }
def LocalCountsWrongFalsely : Prop := localCountsRow.holds Tryz.pinned (OpenSpec.ofChange localCountsWrong)

/-- 'thresherlaw13.LocalMins': WHATEVER THE INPUT: true; the input reads as it did. -/
def localMinsSpec : ChangeSpec := { name := "localMins", fn := fun _ => fun
  | [d] => { results := [.lit (.bool true)], args := [d] }
  | _ => none }
def localMinsRow : OpenClaim := { program := "ytaagllbcmgnbnaagreatdoor", sum := "e9d030e7a10122930d7e5e3ddfb4f15520bbcbd1ac3d250ef936bcbb92ce32ae", func := "thresher/thresherlaw13.LocalMins", spec := "localMins", inPlace := ["internal/bytealg.abigen_runtime_cmpstring", "internal/abi.NoEscape"], unfollowed := true, recurses := true, named := ["thresher/lang.words", "strconv.ErrSyntax", "strconv.ErrRange", "internal/strconv.uint64pow10", "math/bits.deBruijn32tab", "math/bits.deBruijn64tab", "thresher/sum.halves"], loops := true, plainKeys := false, apart := false, laid := [("math/bits.deBruijn32tab", laid_math_bits_deBruijn32tab), ("math/bits.deBruijn64tab", laid_math_bits_deBruijn64tab), ("internal/strconv.uint64pow10", laid_internal_strconv_uint64pow10), ("thresher/sum.halves", laid_thresher_sum_halves), ("strconv.ErrRange", laid_strconv_ErrRange), ("strconv.ErrSyntax", laid_strconv_ErrSyntax), ("thresher/lang.words", laid_thresher_lang_words)] }
def LocalMinsSaid : Prop := localMinsRow.holds Tryz.pinned (OpenSpec.ofChange localMinsSpec)

/-- ITS FALSE NEIGHBOUR: 'it returns false'. Refute it at one input. -/
def localMinsWrong : ChangeSpec := { name := "localMins", fn := fun _ => fun
  | [d] => { results := [.lit (.bool false)], args := [d] }
  | _ => none }
def LocalMinsWrongFalsely : Prop := localMinsRow.holds Tryz.pinned (OpenSpec.ofChange localMinsWrong)

/-- 'thresherlaw13.LocalMaxs': WHATEVER THE INPUT: true; the input reads as it did. -/
def localMaxsSpec : ChangeSpec := { name := "localMaxs", fn := fun _ => fun
  | [d] => { results := [.lit (.bool true)], args := [d] }
  | _ => none }
def localMaxsRow : OpenClaim := { program := "ytaagllbcmgnbnaagreatdoor", sum := "e9d030e7a10122930d7e5e3ddfb4f15520bbcbd1ac3d250ef936bcbb92ce32ae", func := "thresher/thresherlaw13.LocalMaxs", spec := "localMaxs", inPlace := ["internal/bytealg.abigen_runtime_cmpstring", "internal/abi.NoEscape"], unfollowed := true, recurses := true, named := ["thresher/lang.words", "strconv.ErrSyntax", "strconv.ErrRange", "internal/strconv.uint64pow10", "math/bits.deBruijn32tab", "math/bits.deBruijn64tab", "thresher/sum.halves"], loops := true, plainKeys := false, apart := false, laid := [("math/bits.deBruijn32tab", laid_math_bits_deBruijn32tab), ("math/bits.deBruijn64tab", laid_math_bits_deBruijn64tab), ("internal/strconv.uint64pow10", laid_internal_strconv_uint64pow10), ("thresher/sum.halves", laid_thresher_sum_halves), ("strconv.ErrRange", laid_strconv_ErrRange), ("strconv.ErrSyntax", laid_strconv_ErrSyntax), ("thresher/lang.words", laid_thresher_lang_words)] }
def LocalMaxsSaid : Prop := localMaxsRow.holds Tryz.pinned (OpenSpec.ofChange localMaxsSpec)

/-- ITS FALSE NEIGHBOUR: 'it returns false'. Refute it at one input. -/
def localMaxsWrong : ChangeSpec := { name := "localMaxs", fn := fun _ => fun
  | [d] => { results := [.lit (.bool false)], args := [d] }
  | _ => none }
def LocalMaxsWrongFalsely : Prop := localMaxsRow.holds Tryz.pinned (OpenSpec.ofChange localMaxsWrong)

/- THE SECOND FORM. 'bulk': how many values and letters a reading holds, each counted each time it is reached (what is shared counts as often as it is met; a slice's spare places count too). A statement '..UptoSaid' is the law's where the arguments, and the package variables that the reading takes, are together of bulk at most 1048576: NARROWER than '..Said'. Prove '..Said' where nothing that the law and all that it calls make is longer than what came in: it says more and counts as full. Else prove '..UptoSaid'. A law counts once. -/
mutual
def uptoBulk {H : Type} : DataW H → Nat
  | .lit (.string bytes) => bytes.length + 1
  | .lit _ => 1
  | .nil => 1
  | .ptr d => uptoBulk d + 1
  | .slice elems spare => uptoBulkAll elems + uptoBulkAll spare + 1
  | .agg parts => uptoBulkAll parts + 1
  | .iface _ d => uptoBulk d + 1
  | .map entries => uptoBulkEntries entries + 1
  | .held _ => 1
def uptoBulkAll {H : Type} : List (DataW H) → Nat
  | [] => 0
  | d :: r => uptoBulk d + uptoBulkAll r
def uptoBulkEntries {H : Type} : List (Lit × DataW H) → Nat
  | [] => 0
  | x :: r => uptoBulkEntry x + uptoBulkEntries r
def uptoBulkEntry {H : Type} : Lit × DataW H → Nat
  | (.string bytes, d) => bytes.length + uptoBulk d + 1
  | (_, d) => uptoBulk d + 1
 end
def uptoSmall : (H : Type) → List (DataW H) → Bool := fun _ ds => decide (uptoBulkAll ds ≤ 1048576)
def OpenSpec.upto (s : _root_.Go.ChangeSpec) : _root_.Go.OpenSpec := { _root_.Go.OpenSpec.ofChange s with cond := some uptoSmall }

/-- 'thresherlaw13.LocalRuns', WHERE WHAT IT READS IS OF BULK AT MOST 1048576: true; the input reads as it did. -/
def localRunsUptoRow : OpenClaim := { program := "ytaagllbcmgnbnaagreatdoor", sum := "e9d030e7a10122930d7e5e3ddfb4f15520bbcbd1ac3d250ef936bcbb92ce32ae", func := "thresher/thresherlaw13.LocalRuns", spec := "localRuns", inPlace := ["internal/bytealg.abigen_runtime_cmpstring", "internal/abi.NoEscape"], unfollowed := true, recurses := true, named := ["thresher/lang.words", "strconv.ErrSyntax", "strconv.ErrRange", "internal/strconv.uint64pow10", "math/bits.deBruijn32tab", "math/bits.deBruijn64tab", "thresher/sum.halves"], plainKeys := false, apart := false, laid := [("math/bits.deBruijn32tab", laid_math_bits_deBruijn32tab), ("math/bits.deBruijn64tab", laid_math_bits_deBruijn64tab), ("internal/strconv.uint64pow10", laid_internal_strconv_uint64pow10), ("thresher/sum.halves", laid_thresher_sum_halves), ("strconv.ErrRange", laid_strconv_ErrRange), ("strconv.ErrSyntax", laid_strconv_ErrSyntax), ("thresher/lang.words", laid_thresher_lang_words)], narrowed := true }
def LocalRunsUptoSaid : Prop := localRunsUptoRow.holds Tryz.pinned (OpenSpec.upto localRunsSpec)

/-- 'thresherlaw13.LocalWays', WHERE WHAT IT READS IS OF BULK AT MOST 1048576: true; the input reads as it did. -/
def localWaysUptoRow : OpenClaim := { program := "ytaagllbcmgnbnaagreatdoor", sum := "e9d030e7a10122930d7e5e3ddfb4f15520bbcbd1ac3d250ef936bcbb92ce32ae", func := "thresher/thresherlaw13.LocalWays", spec := "localWays", inPlace := ["internal/bytealg.abigen_runtime_cmpstring", "internal/abi.NoEscape"], unfollowed := true, recurses := true, named := ["thresher/lang.words", "strconv.ErrSyntax", "strconv.ErrRange", "internal/strconv.uint64pow10", "math/bits.deBruijn32tab", "math/bits.deBruijn64tab", "thresher/sum.halves"], plainKeys := false, apart := false, laid := [("math/bits.deBruijn32tab", laid_math_bits_deBruijn32tab), ("math/bits.deBruijn64tab", laid_math_bits_deBruijn64tab), ("internal/strconv.uint64pow10", laid_internal_strconv_uint64pow10), ("thresher/sum.halves", laid_thresher_sum_halves), ("strconv.ErrRange", laid_strconv_ErrRange), ("strconv.ErrSyntax", laid_strconv_ErrSyntax), ("thresher/lang.words", laid_thresher_lang_words)], narrowed := true }
def LocalWaysUptoSaid : Prop := localWaysUptoRow.holds Tryz.pinned (OpenSpec.upto localWaysSpec)

/-- 'thresherlaw13.LocalSums', WHERE WHAT IT READS IS OF BULK AT MOST 1048576: true; the input reads as it did. -/
def localSumsUptoRow : OpenClaim := { program := "ytaagllbcmgnbnaagreatdoor", sum := "e9d030e7a10122930d7e5e3ddfb4f15520bbcbd1ac3d250ef936bcbb92ce32ae", func := "thresher/thresherlaw13.LocalSums", spec := "localSums", inPlace := ["internal/bytealg.abigen_runtime_cmpstring", "internal/abi.NoEscape"], unfollowed := true, recurses := true, named := ["thresher/lang.words", "strconv.ErrSyntax", "strconv.ErrRange", "internal/strconv.uint64pow10", "math/bits.deBruijn32tab", "math/bits.deBruijn64tab", "thresher/sum.halves"], loops := true, plainKeys := false, apart := false, laid := [("math/bits.deBruijn32tab", laid_math_bits_deBruijn32tab), ("math/bits.deBruijn64tab", laid_math_bits_deBruijn64tab), ("internal/strconv.uint64pow10", laid_internal_strconv_uint64pow10), ("thresher/sum.halves", laid_thresher_sum_halves), ("strconv.ErrRange", laid_strconv_ErrRange), ("strconv.ErrSyntax", laid_strconv_ErrSyntax), ("thresher/lang.words", laid_thresher_lang_words)], narrowed := true }
def LocalSumsUptoSaid : Prop := localSumsUptoRow.holds Tryz.pinned (OpenSpec.upto localSumsSpec)

/-- 'thresherlaw13.LocalCounts', WHERE WHAT IT READS IS OF BULK AT MOST 1048576: true; the input reads as it did. -/
def localCountsUptoRow : OpenClaim := { program := "ytaagllbcmgnbnaagreatdoor", sum := "e9d030e7a10122930d7e5e3ddfb4f15520bbcbd1ac3d250ef936bcbb92ce32ae", func := "thresher/thresherlaw13.LocalCounts", spec := "localCounts", inPlace := ["internal/bytealg.abigen_runtime_cmpstring", "internal/abi.NoEscape"], unfollowed := true, recurses := true, named := ["thresher/lang.words", "strconv.ErrSyntax", "strconv.ErrRange", "internal/strconv.uint64pow10", "math/bits.deBruijn32tab", "math/bits.deBruijn64tab", "thresher/sum.halves"], loops := true, plainKeys := false, apart := false, laid := [("math/bits.deBruijn32tab", laid_math_bits_deBruijn32tab), ("math/bits.deBruijn64tab", laid_math_bits_deBruijn64tab), ("internal/strconv.uint64pow10", laid_internal_strconv_uint64pow10), ("thresher/sum.halves", laid_thresher_sum_halves), ("strconv.ErrRange", laid_strconv_ErrRange), ("strconv.ErrSyntax", laid_strconv_ErrSyntax), ("thresher/lang.words", laid_thresher_lang_words)], narrowed := true }
def LocalCountsUptoSaid : Prop := localCountsUptoRow.holds Tryz.pinned (OpenSpec.upto localCountsSpec)

/-- 'thresherlaw13.LocalMins', WHERE WHAT IT READS IS OF BULK AT MOST 1048576: true; the input reads as it did. -/
def localMinsUptoRow : OpenClaim := { program := "ytaagllbcmgnbnaagreatdoor", sum := "e9d030e7a10122930d7e5e3ddfb4f15520bbcbd1ac3d250ef936bcbb92ce32ae", func := "thresher/thresherlaw13.LocalMins", spec := "localMins", inPlace := ["internal/bytealg.abigen_runtime_cmpstring", "internal/abi.NoEscape"], unfollowed := true, recurses := true, named := ["thresher/lang.words", "strconv.ErrSyntax", "strconv.ErrRange", "internal/strconv.uint64pow10", "math/bits.deBruijn32tab", "math/bits.deBruijn64tab", "thresher/sum.halves"], loops := true, plainKeys := false, apart := false, laid := [("math/bits.deBruijn32tab", laid_math_bits_deBruijn32tab), ("math/bits.deBruijn64tab", laid_math_bits_deBruijn64tab), ("internal/strconv.uint64pow10", laid_internal_strconv_uint64pow10), ("thresher/sum.halves", laid_thresher_sum_halves), ("strconv.ErrRange", laid_strconv_ErrRange), ("strconv.ErrSyntax", laid_strconv_ErrSyntax), ("thresher/lang.words", laid_thresher_lang_words)], narrowed := true }
def LocalMinsUptoSaid : Prop := localMinsUptoRow.holds Tryz.pinned (OpenSpec.upto localMinsSpec)

/-- 'thresherlaw13.LocalMaxs', WHERE WHAT IT READS IS OF BULK AT MOST 1048576: true; the input reads as it did. -/
def localMaxsUptoRow : OpenClaim := { program := "ytaagllbcmgnbnaagreatdoor", sum := "e9d030e7a10122930d7e5e3ddfb4f15520bbcbd1ac3d250ef936bcbb92ce32ae", func := "thresher/thresherlaw13.LocalMaxs", spec := "localMaxs", inPlace := ["internal/bytealg.abigen_runtime_cmpstring", "internal/abi.NoEscape"], unfollowed := true, recurses := true, named := ["thresher/lang.words", "strconv.ErrSyntax", "strconv.ErrRange", "internal/strconv.uint64pow10", "math/bits.deBruijn32tab", "math/bits.deBruijn64tab", "thresher/sum.halves"], loops := true, plainKeys := false, apart := false, laid := [("math/bits.deBruijn32tab", laid_math_bits_deBruijn32tab), ("math/bits.deBruijn64tab", laid_math_bits_deBruijn64tab), ("internal/strconv.uint64pow10", laid_internal_strconv_uint64pow10), ("thresher/sum.halves", laid_thresher_sum_halves), ("strconv.ErrRange", laid_strconv_ErrRange), ("strconv.ErrSyntax", laid_strconv_ErrSyntax), ("thresher/lang.words", laid_thresher_lang_words)], narrowed := true }
def LocalMaxsUptoSaid : Prop := localMaxsUptoRow.holds Tryz.pinned (OpenSpec.upto localMaxsSpec)

end Rows
end Go.Proofs.YtaagllbcmgnbnaaGreatDoor
