/-
  NARROWER THAN 'FOR EVERY INPUT', by the rows' own cells (each row's printed sentence says how): WindowValid: laid · WindowHolds: laid · WindowNext: laid · WindowSpans: laid · WindowConstant: laid · WindowCovers: laid · WindowDays: laid · MoneySplits: laid.
  DERIVED. THE GIVEN ROWS OF THIS SEAT. 8 by the template 'for every input the law returns true; each argument reads behind the call as it read before'; 0 by the template 'total and deterministic' (their statements: YtmapkiefmbgdoaaDoorTotals.lean).
  GIVEN WITH THE SEED: the statements are not yours to turn. If you find one false, say at which input.
  Laid BY PROGRAM, IN A SANDBOX (cutbox-rows.mjs): the forced cells as the released guide's own fill.sh prints them over the translation 0d15a4234ced9500… (all of the seat's roots in one cut). By AI agents, Wed Nov 11 2026. No macro, syntax, notation, axiom, sorry.
-/
import Derived.Test.YtmapkiefmbgdoaaDoorChecked
import GoSem.Claim
import GoSem.ClaimJoined
import GoSem.ClaimMapViews
import Derived.JoinedTies
import Derived.KernelRfl
namespace Go.Proofs.YtmapkiefmbgdoaaDoor
/- THE CELL 'sum', in the pinned program and in every row, IS THE sha256 OF THE DUMP (.gsa) THAT YtmapkiefmbgdoaaDoorProg.lean LOADS. Nothing in Lean hashes anything: it is a label: what it is worth is what the hold of that sum in a sandbox is worth. -/
noncomputable def Tryd.pinned : Pinned := { name := "ytmapkiefmbgdoaadoor", sum := "0d15a4234ced95009a092750c49faf51b7b9e41a6d1bdac6747cde9eaf66569e", checked := Tryd.checked }
namespace Rows
def none {H : Type} : Left H := { results := [], args := [] }

/- WHAT THE LISTED PACKAGE-LEVEL VARIABLES READ AS WHEN THE CALL BEGINS. Each datum BY PROGRAM (the guide's laid-datum.mjs) off the statement by which the dump's own 'gosem.cut.vars' lays the variable. In a bare row this is a premise. The card (YtmapkiefmbgdoaaDoorCards.lean) ties it to the program's text. -/
def laid_chargenet_calendar_lengths {H : Type} : DataW H := .agg [.lit (.int .i64 31), .lit (.int .i64 28), .lit (.int .i64 31), .lit (.int .i64 30), .lit (.int .i64 31), .lit (.int .i64 30), .lit (.int .i64 31), .lit (.int .i64 31), .lit (.int .i64 30), .lit (.int .i64 31), .lit (.int .i64 30), .lit (.int .i64 31)]
def laid_math_bits_deBruijn32tab {H : Type} : DataW H := .agg [.lit (.int .u8 0), .lit (.int .u8 1), .lit (.int .u8 28), .lit (.int .u8 2), .lit (.int .u8 29), .lit (.int .u8 14), .lit (.int .u8 24), .lit (.int .u8 3), .lit (.int .u8 30), .lit (.int .u8 22), .lit (.int .u8 20), .lit (.int .u8 15), .lit (.int .u8 25), .lit (.int .u8 17), .lit (.int .u8 4), .lit (.int .u8 8), .lit (.int .u8 31), .lit (.int .u8 27), .lit (.int .u8 13), .lit (.int .u8 23), .lit (.int .u8 21), .lit (.int .u8 19), .lit (.int .u8 16), .lit (.int .u8 7), .lit (.int .u8 26), .lit (.int .u8 12), .lit (.int .u8 18), .lit (.int .u8 6), .lit (.int .u8 11), .lit (.int .u8 5), .lit (.int .u8 10), .lit (.int .u8 9)]
def laid_math_bits_deBruijn64tab {H : Type} : DataW H := .agg [.lit (.int .u8 0), .lit (.int .u8 1), .lit (.int .u8 56), .lit (.int .u8 2), .lit (.int .u8 57), .lit (.int .u8 49), .lit (.int .u8 28), .lit (.int .u8 3), .lit (.int .u8 61), .lit (.int .u8 58), .lit (.int .u8 42), .lit (.int .u8 50), .lit (.int .u8 38), .lit (.int .u8 29), .lit (.int .u8 17), .lit (.int .u8 4), .lit (.int .u8 62), .lit (.int .u8 47), .lit (.int .u8 59), .lit (.int .u8 36), .lit (.int .u8 45), .lit (.int .u8 43), .lit (.int .u8 51), .lit (.int .u8 22), .lit (.int .u8 53), .lit (.int .u8 39), .lit (.int .u8 33), .lit (.int .u8 30), .lit (.int .u8 24), .lit (.int .u8 18), .lit (.int .u8 12), .lit (.int .u8 5), .lit (.int .u8 63), .lit (.int .u8 55), .lit (.int .u8 48), .lit (.int .u8 27), .lit (.int .u8 60), .lit (.int .u8 41), .lit (.int .u8 37), .lit (.int .u8 16), .lit (.int .u8 46), .lit (.int .u8 35), .lit (.int .u8 44), .lit (.int .u8 21), .lit (.int .u8 52), .lit (.int .u8 32), .lit (.int .u8 23), .lit (.int .u8 11), .lit (.int .u8 54), .lit (.int .u8 26), .lit (.int .u8 40), .lit (.int .u8 15), .lit (.int .u8 34), .lit (.int .u8 20), .lit (.int .u8 31), .lit (.int .u8 10), .lit (.int .u8 25), .lit (.int .u8 14), .lit (.int .u8 19), .lit (.int .u8 9), .lit (.int .u8 13), .lit (.int .u8 8), .lit (.int .u8 7), .lit (.int .u8 6)]
def laid_internal_strconv_uint64pow10 {H : Type} : DataW H := .agg [.lit (.int .u64 1), .lit (.int .u64 10), .lit (.int .u64 100), .lit (.int .u64 1000), .lit (.int .u64 10000), .lit (.int .u64 100000), .lit (.int .u64 1000000), .lit (.int .u64 10000000), .lit (.int .u64 100000000), .lit (.int .u64 1000000000), .lit (.int .u64 10000000000), .lit (.int .u64 100000000000), .lit (.int .u64 1000000000000), .lit (.int .u64 10000000000000), .lit (.int .u64 100000000000000), .lit (.int .u64 1000000000000000), .lit (.int .u64 10000000000000000), .lit (.int .u64 100000000000000000), .lit (.int .u64 1000000000000000000), .lit (.int .u64 10000000000000000000)]
def laid_strconv_ErrRange {H : Type} : DataW H := .iface "*errors.errorString" (.ptr (.agg [.lit (.string [118, 97, 108, 117, 101, 32, 111, 117, 116, 32, 111, 102, 32, 114, 97, 110, 103, 101])]))
def laid_strconv_ErrSyntax {H : Type} : DataW H := .iface "*errors.errorString" (.ptr (.agg [.lit (.string [105, 110, 118, 97, 108, 105, 100, 32, 115, 121, 110, 116, 97, 120])]))

/-- 'chargenetlaw05.WindowValid': WHATEVER THE INPUT: true; the input reads as it did. -/
def windowValidSpec : ChangeSpec := { name := "windowValid", fn := fun _ => fun
  | [d] => { results := [.lit (.bool true)], args := [d] }
  | _ => none }
def windowValidRow : OpenClaim := { program := "ytmapkiefmbgdoaadoor", sum := "0d15a4234ced95009a092750c49faf51b7b9e41a6d1bdac6747cde9eaf66569e", func := "chargenet/chargenetlaw05.WindowValid", spec := "windowValid", unfollowed := true, recurses := true, named := ["chargenet/calendar.lengths"], apart := false, laid := [("chargenet/calendar.lengths", laid_chargenet_calendar_lengths)] }
def WindowValidSaid : Prop := windowValidRow.holds Tryd.pinned (OpenSpec.ofChange windowValidSpec)

/-- ITS FALSE NEIGHBOUR: 'it returns false'. Refute it at one input. -/
def windowValidWrong : ChangeSpec := { name := "windowValid", fn := fun _ => fun
  | [d] => { results := [.lit (.bool false)], args := [d] }
  | _ => none }
def WindowValidWrongFalsely : Prop := windowValidRow.holds Tryd.pinned (OpenSpec.ofChange windowValidWrong)

/-- 'chargenetlaw05.WindowHolds': WHATEVER THE INPUT: true; the input reads as it did. -/
def windowHoldsSpec : ChangeSpec := { name := "windowHolds", fn := fun _ => fun
  | [d1, d2, d3] => { results := [.lit (.bool true)], args := [d1, d2, d3] }
  | _ => none }
def windowHoldsRow : OpenClaim := { program := "ytmapkiefmbgdoaadoor", sum := "0d15a4234ced95009a092750c49faf51b7b9e41a6d1bdac6747cde9eaf66569e", func := "chargenet/chargenetlaw05.WindowHolds", spec := "windowHolds", unfollowed := true, recurses := true, named := ["chargenet/calendar.lengths"], apart := false, laid := [("chargenet/calendar.lengths", laid_chargenet_calendar_lengths)] }
def WindowHoldsSaid : Prop := windowHoldsRow.holds Tryd.pinned (OpenSpec.ofChange windowHoldsSpec)

/-- ITS FALSE NEIGHBOUR: 'it returns false'. Refute it at one input. -/
def windowHoldsWrong : ChangeSpec := { name := "windowHolds", fn := fun _ => fun
  | [d1, d2, d3] => { results := [.lit (.bool false)], args := [d1, d2, d3] }
  | _ => none }
def WindowHoldsWrongFalsely : Prop := windowHoldsRow.holds Tryd.pinned (OpenSpec.ofChange windowHoldsWrong)

/-- 'chargenetlaw05.WindowNext': WHATEVER THE INPUT: true; the input reads as it did. -/
def windowNextSpec : ChangeSpec := { name := "windowNext", fn := fun _ => fun
  | [d1, d2, d3] => { results := [.lit (.bool true)], args := [d1, d2, d3] }
  | _ => none }
def windowNextRow : OpenClaim := { program := "ytmapkiefmbgdoaadoor", sum := "0d15a4234ced95009a092750c49faf51b7b9e41a6d1bdac6747cde9eaf66569e", func := "chargenet/chargenetlaw05.WindowNext", spec := "windowNext", unfollowed := true, recurses := true, named := ["chargenet/calendar.lengths"], apart := false, laid := [("chargenet/calendar.lengths", laid_chargenet_calendar_lengths)] }
def WindowNextSaid : Prop := windowNextRow.holds Tryd.pinned (OpenSpec.ofChange windowNextSpec)

/-- ITS FALSE NEIGHBOUR: 'it returns false'. Refute it at one input. -/
def windowNextWrong : ChangeSpec := { name := "windowNext", fn := fun _ => fun
  | [d1, d2, d3] => { results := [.lit (.bool false)], args := [d1, d2, d3] }
  | _ => none }
def WindowNextWrongFalsely : Prop := windowNextRow.holds Tryd.pinned (OpenSpec.ofChange windowNextWrong)

/-- 'chargenetlaw05.WindowSpans': WHATEVER THE INPUT: true; the input reads as it did. -/
def windowSpansSpec : ChangeSpec := { name := "windowSpans", fn := fun _ => fun
  | [d1, d2, d3] => { results := [.lit (.bool true)], args := [d1, d2, d3] }
  | _ => none }
def windowSpansRow : OpenClaim := { program := "ytmapkiefmbgdoaadoor", sum := "0d15a4234ced95009a092750c49faf51b7b9e41a6d1bdac6747cde9eaf66569e", func := "chargenet/chargenetlaw05.WindowSpans", spec := "windowSpans", unfollowed := true, recurses := true, named := ["chargenet/calendar.lengths"], apart := false, laid := [("chargenet/calendar.lengths", laid_chargenet_calendar_lengths)] }
def WindowSpansSaid : Prop := windowSpansRow.holds Tryd.pinned (OpenSpec.ofChange windowSpansSpec)

/-- ITS FALSE NEIGHBOUR: 'it returns false'. Refute it at one input. -/
def windowSpansWrong : ChangeSpec := { name := "windowSpans", fn := fun _ => fun
  | [d1, d2, d3] => { results := [.lit (.bool false)], args := [d1, d2, d3] }
  | _ => none }
def WindowSpansWrongFalsely : Prop := windowSpansRow.holds Tryd.pinned (OpenSpec.ofChange windowSpansWrong)

/-- 'chargenetlaw05.WindowConstant': WHATEVER THE INPUT: true; the input reads as it did. -/
def windowConstantSpec : ChangeSpec := { name := "windowConstant", fn := fun _ => fun
  | [d1, d2, d3] => { results := [.lit (.bool true)], args := [d1, d2, d3] }
  | _ => none }
def windowConstantRow : OpenClaim := { program := "ytmapkiefmbgdoaadoor", sum := "0d15a4234ced95009a092750c49faf51b7b9e41a6d1bdac6747cde9eaf66569e", func := "chargenet/chargenetlaw05.WindowConstant", spec := "windowConstant", unfollowed := true, recurses := true, named := ["chargenet/calendar.lengths"], apart := false, laid := [("chargenet/calendar.lengths", laid_chargenet_calendar_lengths)] }
def WindowConstantSaid : Prop := windowConstantRow.holds Tryd.pinned (OpenSpec.ofChange windowConstantSpec)

/-- ITS FALSE NEIGHBOUR: 'it returns false'. Refute it at one input. -/
def windowConstantWrong : ChangeSpec := { name := "windowConstant", fn := fun _ => fun
  | [d1, d2, d3] => { results := [.lit (.bool false)], args := [d1, d2, d3] }
  | _ => none }
def WindowConstantWrongFalsely : Prop := windowConstantRow.holds Tryd.pinned (OpenSpec.ofChange windowConstantWrong)

/-- 'chargenetlaw05.WindowCovers': WHATEVER THE INPUT: true; the input reads as it did. -/
def windowCoversSpec : ChangeSpec := { name := "windowCovers", fn := fun _ => fun
  | [d1, d2, d3] => { results := [.lit (.bool true)], args := [d1, d2, d3] }
  | _ => none }
def windowCoversRow : OpenClaim := { program := "ytmapkiefmbgdoaadoor", sum := "0d15a4234ced95009a092750c49faf51b7b9e41a6d1bdac6747cde9eaf66569e", func := "chargenet/chargenetlaw05.WindowCovers", spec := "windowCovers", unfollowed := true, recurses := true, named := ["chargenet/calendar.lengths"], apart := false, laid := [("chargenet/calendar.lengths", laid_chargenet_calendar_lengths)] }
def WindowCoversSaid : Prop := windowCoversRow.holds Tryd.pinned (OpenSpec.ofChange windowCoversSpec)

/-- ITS FALSE NEIGHBOUR: 'it returns false'. Refute it at one input. -/
def windowCoversWrong : ChangeSpec := { name := "windowCovers", fn := fun _ => fun
  | [d1, d2, d3] => { results := [.lit (.bool false)], args := [d1, d2, d3] }
  | _ => none }
def WindowCoversWrongFalsely : Prop := windowCoversRow.holds Tryd.pinned (OpenSpec.ofChange windowCoversWrong)

/-- 'chargenetlaw05.WindowDays': WHATEVER THE INPUT: true; the input reads as it did. -/
def windowDaysSpec : ChangeSpec := { name := "windowDays", fn := fun _ => fun
  | [d1, d2, d3] => { results := [.lit (.bool true)], args := [d1, d2, d3] }
  | _ => none }
def windowDaysRow : OpenClaim := { program := "ytmapkiefmbgdoaadoor", sum := "0d15a4234ced95009a092750c49faf51b7b9e41a6d1bdac6747cde9eaf66569e", func := "chargenet/chargenetlaw05.WindowDays", spec := "windowDays", unfollowed := true, recurses := true, named := ["chargenet/calendar.lengths"], apart := false, laid := [("chargenet/calendar.lengths", laid_chargenet_calendar_lengths)] }
def WindowDaysSaid : Prop := windowDaysRow.holds Tryd.pinned (OpenSpec.ofChange windowDaysSpec)

/-- ITS FALSE NEIGHBOUR: 'it returns false'. Refute it at one input. -/
def windowDaysWrong : ChangeSpec := { name := "windowDays", fn := fun _ => fun
  | [d1, d2, d3] => { results := [.lit (.bool false)], args := [d1, d2, d3] }
  | _ => none }
def WindowDaysWrongFalsely : Prop := windowDaysRow.holds Tryd.pinned (OpenSpec.ofChange windowDaysWrong)

/-- 'chargenetlaw03.MoneySplits': WHATEVER THE INPUT: true; the input reads as it did. -/
def moneySplitsSpec : ChangeSpec := { name := "moneySplits", fn := fun _ => fun
  | [d1, d2] => { results := [.lit (.bool true)], args := [d1, d2] }
  | _ => none }
def moneySplitsRow : OpenClaim := { program := "ytmapkiefmbgdoaadoor", sum := "0d15a4234ced95009a092750c49faf51b7b9e41a6d1bdac6747cde9eaf66569e", func := "chargenet/chargenetlaw03.MoneySplits", spec := "moneySplits", unfollowed := true, recurses := true, named := ["math/bits.divideError", "math/bits.overflowError", "internal/strconv.uint64pow10", "math/bits.deBruijn32tab", "math/bits.deBruijn64tab", "strconv.ErrSyntax", "strconv.ErrRange"], apart := false, laid := [("math/bits.deBruijn32tab", laid_math_bits_deBruijn32tab), ("math/bits.deBruijn64tab", laid_math_bits_deBruijn64tab), ("internal/strconv.uint64pow10", laid_internal_strconv_uint64pow10), ("strconv.ErrRange", laid_strconv_ErrRange), ("strconv.ErrSyntax", laid_strconv_ErrSyntax)] }
def MoneySplitsSaid : Prop := moneySplitsRow.holds Tryd.pinned (OpenSpec.ofChange moneySplitsSpec)

/-- ITS FALSE NEIGHBOUR: 'it returns false'. Refute it at one input. -/
def moneySplitsWrong : ChangeSpec := { name := "moneySplits", fn := fun _ => fun
  | [d1, d2] => { results := [.lit (.bool false)], args := [d1, d2] }
  | _ => none }
def MoneySplitsWrongFalsely : Prop := moneySplitsRow.holds Tryd.pinned (OpenSpec.ofChange moneySplitsWrong)

/- THE SECOND FORM. 'bulk': how many values and letters a reading holds, each counted each time it is reached (what is shared counts as often as it is met; a slice's spare places count too). A statement '..UptoSaid' is the law's where the arguments, and the package variables that the reading takes, are together of bulk at most 1048576: NARROWER than '..Said'. Prove '..Said' where nothing that the law and all that it calls make is longer than what came in: it says more and counts as full. Else prove '..UptoSaid'. A law counts once. -/
mutual
def uptoBulk {H : Type} : DataW H → Nat
  | .lit (.string bytes) => bytes.length + 1
  | .lit _ => 1
  | .nil => 1
  | .ptr d => uptoBulk d + 1
  | .slice elems spare => uptoBulkAll elems + uptoBulkAll spare + 1
  | .agg parts => uptoBulkAll parts + 1
  | .iface _ d => uptoBulk d + 1
  | .map entries => uptoBulkEntries entries + 1
  | .held _ => 1
def uptoBulkAll {H : Type} : List (DataW H) → Nat
  | [] => 0
  | d :: r => uptoBulk d + uptoBulkAll r
def uptoBulkEntries {H : Type} : List (Lit × DataW H) → Nat
  | [] => 0
  | x :: r => uptoBulkEntry x + uptoBulkEntries r
def uptoBulkEntry {H : Type} : Lit × DataW H → Nat
  | (.string bytes, d) => bytes.length + uptoBulk d + 1
  | (_, d) => uptoBulk d + 1
 end
def uptoSmall : (H : Type) → List (DataW H) → Bool := fun _ ds => decide (uptoBulkAll ds ≤ 1048576)
def OpenSpec.upto (s : _root_.Go.ChangeSpec) : _root_.Go.OpenSpec := { _root_.Go.OpenSpec.ofChange s with cond := some uptoSmall }

/-- 'chargenetlaw05.WindowValid', WHERE WHAT IT READS IS OF BULK AT MOST 1048576: true; the input reads as it did. -/
def windowValidUptoRow : OpenClaim := { program := "ytmapkiefmbgdoaadoor", sum := "0d15a4234ced95009a092750c49faf51b7b9e41a6d1bdac6747cde9eaf66569e", func := "chargenet/chargenetlaw05.WindowValid", spec := "windowValid", unfollowed := true, recurses := true, named := ["chargenet/calendar.lengths"], apart := false, laid := [("chargenet/calendar.lengths", laid_chargenet_calendar_lengths)], narrowed := true }
def WindowValidUptoSaid : Prop := windowValidUptoRow.holds Tryd.pinned (OpenSpec.upto windowValidSpec)

/-- 'chargenetlaw05.WindowHolds', WHERE WHAT IT READS IS OF BULK AT MOST 1048576: true; the input reads as it did. -/
def windowHoldsUptoRow : OpenClaim := { program := "ytmapkiefmbgdoaadoor", sum := "0d15a4234ced95009a092750c49faf51b7b9e41a6d1bdac6747cde9eaf66569e", func := "chargenet/chargenetlaw05.WindowHolds", spec := "windowHolds", unfollowed := true, recurses := true, named := ["chargenet/calendar.lengths"], apart := false, laid := [("chargenet/calendar.lengths", laid_chargenet_calendar_lengths)], narrowed := true }
def WindowHoldsUptoSaid : Prop := windowHoldsUptoRow.holds Tryd.pinned (OpenSpec.upto windowHoldsSpec)

/-- 'chargenetlaw05.WindowNext', WHERE WHAT IT READS IS OF BULK AT MOST 1048576: true; the input reads as it did. -/
def windowNextUptoRow : OpenClaim := { program := "ytmapkiefmbgdoaadoor", sum := "0d15a4234ced95009a092750c49faf51b7b9e41a6d1bdac6747cde9eaf66569e", func := "chargenet/chargenetlaw05.WindowNext", spec := "windowNext", unfollowed := true, recurses := true, named := ["chargenet/calendar.lengths"], apart := false, laid := [("chargenet/calendar.lengths", laid_chargenet_calendar_lengths)], narrowed := true }
def WindowNextUptoSaid : Prop := windowNextUptoRow.holds Tryd.pinned (OpenSpec.upto windowNextSpec)

/-- 'chargenetlaw05.WindowSpans', WHERE WHAT IT READS IS OF BULK AT MOST 1048576: true; the input reads as it did. -/
def windowSpansUptoRow : OpenClaim := { program := "ytmapkiefmbgdoaadoor", sum := "0d15a4234ced95009a092750c49faf51b7b9e41a6d1bdac6747cde9eaf66569e", func := "chargenet/chargenetlaw05.WindowSpans", spec := "windowSpans", unfollowed := true, recurses := true, named := ["chargenet/calendar.lengths"], apart := false, laid := [("chargenet/calendar.lengths", laid_chargenet_calendar_lengths)], narrowed := true }
def WindowSpansUptoSaid : Prop := windowSpansUptoRow.holds Tryd.pinned (OpenSpec.upto windowSpansSpec)

/-- 'chargenetlaw05.WindowConstant', WHERE WHAT IT READS IS OF BULK AT MOST 1048576: true; the input reads as it did. -/
def windowConstantUptoRow : OpenClaim := { program := "ytmapkiefmbgdoaadoor", sum := "0d15a4234ced95009a092750c49faf51b7b9e41a6d1bdac6747cde9eaf66569e", func := "chargenet/chargenetlaw05.WindowConstant", spec := "windowConstant", unfollowed := true, recurses := true, named := ["chargenet/calendar.lengths"], apart := false, laid := [("chargenet/calendar.lengths", laid_chargenet_calendar_lengths)], narrowed := true }
def WindowConstantUptoSaid : Prop := windowConstantUptoRow.holds Tryd.pinned (OpenSpec.upto windowConstantSpec)

/-- 'chargenetlaw05.WindowCovers', WHERE WHAT IT READS IS OF BULK AT MOST 1048576: true; the input reads as it did. -/
def windowCoversUptoRow : OpenClaim := { program := "ytmapkiefmbgdoaadoor", sum := "0d15a4234ced95009a092750c49faf51b7b9e41a6d1bdac6747cde9eaf66569e", func := "chargenet/chargenetlaw05.WindowCovers", spec := "windowCovers", unfollowed := true, recurses := true, named := ["chargenet/calendar.lengths"], apart := false, laid := [("chargenet/calendar.lengths", laid_chargenet_calendar_lengths)], narrowed := true }
def WindowCoversUptoSaid : Prop := windowCoversUptoRow.holds Tryd.pinned (OpenSpec.upto windowCoversSpec)

/-- 'chargenetlaw05.WindowDays', WHERE WHAT IT READS IS OF BULK AT MOST 1048576: true; the input reads as it did. -/
def windowDaysUptoRow : OpenClaim := { program := "ytmapkiefmbgdoaadoor", sum := "0d15a4234ced95009a092750c49faf51b7b9e41a6d1bdac6747cde9eaf66569e", func := "chargenet/chargenetlaw05.WindowDays", spec := "windowDays", unfollowed := true, recurses := true, named := ["chargenet/calendar.lengths"], apart := false, laid := [("chargenet/calendar.lengths", laid_chargenet_calendar_lengths)], narrowed := true }
def WindowDaysUptoSaid : Prop := windowDaysUptoRow.holds Tryd.pinned (OpenSpec.upto windowDaysSpec)

/-- 'chargenetlaw03.MoneySplits', WHERE WHAT IT READS IS OF BULK AT MOST 1048576: true; the input reads as it did. -/
def moneySplitsUptoRow : OpenClaim := { program := "ytmapkiefmbgdoaadoor", sum := "0d15a4234ced95009a092750c49faf51b7b9e41a6d1bdac6747cde9eaf66569e", func := "chargenet/chargenetlaw03.MoneySplits", spec := "moneySplits", unfollowed := true, recurses := true, named := ["math/bits.divideError", "math/bits.overflowError", "internal/strconv.uint64pow10", "math/bits.deBruijn32tab", "math/bits.deBruijn64tab", "strconv.ErrSyntax", "strconv.ErrRange"], apart := false, laid := [("math/bits.deBruijn32tab", laid_math_bits_deBruijn32tab), ("math/bits.deBruijn64tab", laid_math_bits_deBruijn64tab), ("internal/strconv.uint64pow10", laid_internal_strconv_uint64pow10), ("strconv.ErrRange", laid_strconv_ErrRange), ("strconv.ErrSyntax", laid_strconv_ErrSyntax)], narrowed := true }
def MoneySplitsUptoSaid : Prop := moneySplitsUptoRow.holds Tryd.pinned (OpenSpec.upto moneySplitsSpec)

end Rows
end Go.Proofs.YtmapkiefmbgdoaaDoor
