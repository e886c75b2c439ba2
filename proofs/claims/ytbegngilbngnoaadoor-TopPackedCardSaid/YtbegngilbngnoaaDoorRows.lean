/-
  NARROWER THAN 'FOR EVERY INPUT', by the rows' own cells (each row's printed sentence says how): ZerosCodes: laid · ZerosDigits: laid · ZerosBack: laid · ZerosRuns: laid · TopPacked: laid.
  DERIVED. THE GIVEN ROWS OF THIS SEAT. 5 by the template 'for every input the law returns true; each argument reads behind the call as it read before'; 0 by the template 'total and deterministic' (their statements: YtbegngilbngnoaaDoorTotals.lean).
  GIVEN WITH THE SEED: the statements are not yours to turn. If you find one false, say at which input.
  Laid BY PROGRAM, IN A SANDBOX (cutbox-rows.mjs): the forced cells as the released guide's own fill.sh prints them over the translation 8dc3e285250dcf6e… (all of the seat's roots in one cut). By AI agents, Wed Nov 11 2026. No macro, syntax, notation, axiom, sorry.
-/
import Derived.Test.YtbegngilbngnoaaDoorChecked
import GoSem.PinnedTables
import GoSem.Claim
import GoSem.ClaimJoined
import GoSem.ClaimMapViews
import Derived.JoinedTies
import Derived.KernelRfl
namespace Go.Proofs.YtbegngilbngnoaaDoor
/- THE CELL 'sum', in the pinned program and in every row, IS THE sha256 OF THE DUMP (.gsa) THAT YtbegngilbngnoaaDoorProg.lean LOADS. Nothing in Lean hashes anything: it is a label: what it is worth is what the hold of that sum in a sandbox is worth. -/
noncomputable def Tryd.pinned : Pinned := { name := "ytbegngilbngnoaadoor", sum := "8dc3e285250dcf6ed08e94cbc9d1083bcec02ea8dc991e71a532e48625291c87", checked := Tryd.checked }
namespace Rows
def none {H : Type} : Left H := { results := [], args := [] }

/- WHAT THE LISTED PACKAGE-LEVEL VARIABLES READ AS WHEN THE CALL BEGINS. Each datum BY PROGRAM (the guide's laid-datum.mjs) off the statement by which the dump's own 'gosem.cut.vars' lays the variable. In a bare row this is a premise. The card (YtbegngilbngnoaaDoorCards.lean) ties it to the program's text. -/
def laid_unicode_utf8_acceptRanges {H : Type} : DataW H := .agg [.agg [.lit (.int .u8 128), .lit (.int .u8 191)], .agg [.lit (.int .u8 160), .lit (.int .u8 191)], .agg [.lit (.int .u8 128), .lit (.int .u8 159)], .agg [.lit (.int .u8 144), .lit (.int .u8 191)], .agg [.lit (.int .u8 128), .lit (.int .u8 143)], .agg [.lit (.int .u8 0), .lit (.int .u8 0)], .agg [.lit (.int .u8 0), .lit (.int .u8 0)], .agg [.lit (.int .u8 0), .lit (.int .u8 0)], .agg [.lit (.int .u8 0), .lit (.int .u8 0)], .agg [.lit (.int .u8 0), .lit (.int .u8 0)], .agg [.lit (.int .u8 0), .lit (.int .u8 0)], .agg [.lit (.int .u8 0), .lit (.int .u8 0)], .agg [.lit (.int .u8 0), .lit (.int .u8 0)], .agg [.lit (.int .u8 0), .lit (.int .u8 0)], .agg [.lit (.int .u8 0), .lit (.int .u8 0)], .agg [.lit (.int .u8 0), .lit (.int .u8 0)]]
/-- One of Go's own tables, pinned by name: the form's constant. -/
def laid_unicode_utf8_first : DataW Unit := Go.Pinned.utf8First

/-- 'wringerlaw19.ZerosCodes': WHATEVER THE INPUT: true; the input reads as it did. -/
def zerosCodesSpec : ChangeSpec := { name := "zerosCodes", fn := fun _ => fun
  | [d1, d2] => { results := [.lit (.bool true)], args := [d1, d2] }
  | _ => none }
def zerosCodesRow : OpenClaim := { program := "ytbegngilbngnoaadoor", sum := "8dc3e285250dcf6ed08e94cbc9d1083bcec02ea8dc991e71a532e48625291c87", func := "wringer/wringerlaw19.ZerosCodes", spec := "zerosCodes", inPlace := ["internal/bytealg.IndexByteString", "internal/bytealg.IndexString", "internal/bytealg.MakeNoZero"], named := ["unicode/utf8.first", "unicode/utf8.acceptRanges", "internal/bytealg.MaxLen"], apart := false, laid := [("unicode/utf8.acceptRanges", laid_unicode_utf8_acceptRanges), ("unicode/utf8.first", laid_unicode_utf8_first)] }
def ZerosCodesSaid : Prop := zerosCodesRow.holds Tryd.pinned (OpenSpec.ofChange zerosCodesSpec)

/-- ITS FALSE NEIGHBOUR: 'it returns false'. Refute it at one input. -/
def zerosCodesWrong : ChangeSpec := { name := "zerosCodes", fn := fun _ => fun
  | [d1, d2] => { results := [.lit (.bool false)], args := [d1, d2] }
  | _ => none }
def ZerosCodesWrongFalsely : Prop := zerosCodesRow.holds Tryd.pinned (OpenSpec.ofChange zerosCodesWrong)

/-- 'wringerlaw19.ZerosDigits': WHATEVER THE INPUT: true; the input reads as it did. -/
def zerosDigitsSpec : ChangeSpec := { name := "zerosDigits", fn := fun _ => fun
  | [d1, d2] => { results := [.lit (.bool true)], args := [d1, d2] }
  | _ => none }
def zerosDigitsRow : OpenClaim := { program := "ytbegngilbngnoaadoor", sum := "8dc3e285250dcf6ed08e94cbc9d1083bcec02ea8dc991e71a532e48625291c87", func := "wringer/wringerlaw19.ZerosDigits", spec := "zerosDigits", inPlace := ["internal/bytealg.IndexByteString", "internal/bytealg.IndexString", "internal/bytealg.MakeNoZero"], named := ["unicode/utf8.first", "unicode/utf8.acceptRanges", "internal/bytealg.MaxLen"], apart := false, laid := [("unicode/utf8.acceptRanges", laid_unicode_utf8_acceptRanges), ("unicode/utf8.first", laid_unicode_utf8_first)] }
def ZerosDigitsSaid : Prop := zerosDigitsRow.holds Tryd.pinned (OpenSpec.ofChange zerosDigitsSpec)

/-- ITS FALSE NEIGHBOUR: 'it returns false'. Refute it at one input. -/
def zerosDigitsWrong : ChangeSpec := { name := "zerosDigits", fn := fun _ => fun
  | [d1, d2] => { results := [.lit (.bool false)], args := [d1, d2] }
  | _ => none }
def ZerosDigitsWrongFalsely : Prop := zerosDigitsRow.holds Tryd.pinned (OpenSpec.ofChange zerosDigitsWrong)

/-- 'wringerlaw19.ZerosBack': WHATEVER THE INPUT: true; the input reads as it did. -/
def zerosBackSpec : ChangeSpec := { name := "zerosBack", fn := fun _ => fun
  | [d1, d2] => { results := [.lit (.bool true)], args := [d1, d2] }
  | _ => none }
def zerosBackRow : OpenClaim := { program := "ytbegngilbngnoaadoor", sum := "8dc3e285250dcf6ed08e94cbc9d1083bcec02ea8dc991e71a532e48625291c87", func := "wringer/wringerlaw19.ZerosBack", spec := "zerosBack", inPlace := ["internal/bytealg.IndexByteString", "internal/bytealg.IndexString", "internal/bytealg.MakeNoZero"], named := ["unicode/utf8.first", "unicode/utf8.acceptRanges", "internal/bytealg.MaxLen"], apart := false, laid := [("unicode/utf8.acceptRanges", laid_unicode_utf8_acceptRanges), ("unicode/utf8.first", laid_unicode_utf8_first)] }
def ZerosBackSaid : Prop := zerosBackRow.holds Tryd.pinned (OpenSpec.ofChange zerosBackSpec)

/-- ITS FALSE NEIGHBOUR: 'it returns false'. Refute it at one input. -/
def zerosBackWrong : ChangeSpec := { name := "zerosBack", fn := fun _ => fun
  | [d1, d2] => { results := [.lit (.bool false)], args := [d1, d2] }
  | _ => none }
def ZerosBackWrongFalsely : Prop := zerosBackRow.holds Tryd.pinned (OpenSpec.ofChange zerosBackWrong)

/-- 'wringerlaw19.ZerosRuns': WHATEVER THE INPUT: true; the input reads as it did. -/
def zerosRunsSpec : ChangeSpec := { name := "zerosRuns", fn := fun _ => fun
  | [d1, d2] => { results := [.lit (.bool true)], args := [d1, d2] }
  | _ => none }
def zerosRunsRow : OpenClaim := { program := "ytbegngilbngnoaadoor", sum := "8dc3e285250dcf6ed08e94cbc9d1083bcec02ea8dc991e71a532e48625291c87", func := "wringer/wringerlaw19.ZerosRuns", spec := "zerosRuns", inPlace := ["internal/bytealg.IndexByteString", "internal/bytealg.IndexString", "internal/bytealg.MakeNoZero"], named := ["unicode/utf8.first", "unicode/utf8.acceptRanges", "internal/bytealg.MaxLen"], apart := false, laid := [("unicode/utf8.acceptRanges", laid_unicode_utf8_acceptRanges), ("unicode/utf8.first", laid_unicode_utf8_first)] }
def ZerosRunsSaid : Prop := zerosRunsRow.holds Tryd.pinned (OpenSpec.ofChange zerosRunsSpec)

/-- ITS FALSE NEIGHBOUR: 'it returns false'. Refute it at one input. -/
def zerosRunsWrong : ChangeSpec := { name := "zerosRuns", fn := fun _ => fun
  | [d1, d2] => { results := [.lit (.bool false)], args := [d1, d2] }
  | _ => none }
def ZerosRunsWrongFalsely : Prop := zerosRunsRow.holds Tryd.pinned (OpenSpec.ofChange zerosRunsWrong)

/-- 'wringertop.TopPacked': WHATEVER THE INPUT: true; the input reads as it did. -/
def topPackedSpec : ChangeSpec := { name := "topPacked", fn := fun _ => fun
  | [d1, d2] => { results := [.lit (.bool true)], args := [d1, d2] }
  | _ => none }
def topPackedRow : OpenClaim := { program := "ytbegngilbngnoaadoor", sum := "8dc3e285250dcf6ed08e94cbc9d1083bcec02ea8dc991e71a532e48625291c87", func := "wringer/wringertop.TopPacked", spec := "topPacked", inPlace := ["internal/bytealg.IndexByteString", "internal/bytealg.IndexString"], unfollowed := true, recurses := true, named := ["unicode/utf8.first", "unicode/utf8.acceptRanges", "internal/bytealg.MaxLen"], apart := false, laid := [("unicode/utf8.acceptRanges", laid_unicode_utf8_acceptRanges), ("unicode/utf8.first", laid_unicode_utf8_first)] }
def TopPackedSaid : Prop := topPackedRow.holds Tryd.pinned (OpenSpec.ofChange topPackedSpec)

/-- ITS FALSE NEIGHBOUR: 'it returns false'. Refute it at one input. -/
def topPackedWrong : ChangeSpec := { name := "topPacked", fn := fun _ => fun
  | [d1, d2] => { results := [.lit (.bool false)], args := [d1, d2] }
  | _ => none }
def TopPackedWrongFalsely : Prop := topPackedRow.holds Tryd.pinned (OpenSpec.ofChange topPackedWrong)

/- THE SECOND FORM. 'bulk': how many values and letters a reading holds, each counted each time it is reached (what is shared counts as often as it is met; a slice's spare places count too). A statement '..UptoSaid' is the law's where the arguments, and the package variables that the reading takes, are together of bulk at most 1048576: NARROWER than '..Said'. Prove '..Said' where nothing that the law and all that it calls make is longer than what came in: it says more and counts as full. Else prove '..UptoSaid'. A law counts once. -/
mutual
def uptoBulk {H : Type} : DataW H → Nat
  | .lit (.string bytes) => bytes.length + 1
  | .lit _ => 1
  | .nil => 1
  | .ptr d => uptoBulk d + 1
  | .slice elems spare => uptoBulkAll elems + uptoBulkAll spare + 1
  | .agg parts => uptoBulkAll parts + 1
  | .iface _ d => uptoBulk d + 1
  | .map entries => uptoBulkEntries entries + 1
  | .held _ => 1
def uptoBulkAll {H : Type} : List (DataW H) → Nat
  | [] => 0
  | d :: r => uptoBulk d + uptoBulkAll r
def uptoBulkEntries {H : Type} : List (Lit × DataW H) → Nat
  | [] => 0
  | x :: r => uptoBulkEntry x + uptoBulkEntries r
def uptoBulkEntry {H : Type} : Lit × DataW H → Nat
  | (.string bytes, d) => bytes.length + uptoBulk d + 1
  | (_, d) => uptoBulk d + 1
 end
def uptoSmall : (H : Type) → List (DataW H) → Bool := fun _ ds => decide (uptoBulkAll ds ≤ 1048576)
def OpenSpec.upto (s : _root_.Go.ChangeSpec) : _root_.Go.OpenSpec := { _root_.Go.OpenSpec.ofChange s with cond := some uptoSmall }

/-- 'wringerlaw19.ZerosCodes', WHERE WHAT IT READS IS OF BULK AT MOST 1048576: true; the input reads as it did. -/
def zerosCodesUptoRow : OpenClaim := { program := "ytbegngilbngnoaadoor", sum := "8dc3e285250dcf6ed08e94cbc9d1083bcec02ea8dc991e71a532e48625291c87", func := "wringer/wringerlaw19.ZerosCodes", spec := "zerosCodes", inPlace := ["internal/bytealg.IndexByteString", "internal/bytealg.IndexString", "internal/bytealg.MakeNoZero"], named := ["unicode/utf8.first", "unicode/utf8.acceptRanges", "internal/bytealg.MaxLen"], apart := false, laid := [("unicode/utf8.acceptRanges", laid_unicode_utf8_acceptRanges), ("unicode/utf8.first", laid_unicode_utf8_first)], narrowed := true }
def ZerosCodesUptoSaid : Prop := zerosCodesUptoRow.holds Tryd.pinned (OpenSpec.upto zerosCodesSpec)

/-- 'wringerlaw19.ZerosDigits', WHERE WHAT IT READS IS OF BULK AT MOST 1048576: true; the input reads as it did. -/
def zerosDigitsUptoRow : OpenClaim := { program := "ytbegngilbngnoaadoor", sum := "8dc3e285250dcf6ed08e94cbc9d1083bcec02ea8dc991e71a532e48625291c87", func := "wringer/wringerlaw19.ZerosDigits", spec := "zerosDigits", inPlace := ["internal/bytealg.IndexByteString", "internal/bytealg.IndexString", "internal/bytealg.MakeNoZero"], named := ["unicode/utf8.first", "unicode/utf8.acceptRanges", "internal/bytealg.MaxLen"], apart := false, laid := [("unicode/utf8.acceptRanges", laid_unicode_utf8_acceptRanges), ("unicode/utf8.first", laid_unicode_utf8_first)], narrowed := true }
def ZerosDigitsUptoSaid : Prop := zerosDigitsUptoRow.holds Tryd.pinned (OpenSpec.upto zerosDigitsSpec)

/-- 'wringerlaw19.ZerosBack', WHERE WHAT IT READS IS OF BULK AT MOST 1048576: true; the input reads as it did. -/
def zerosBackUptoRow : OpenClaim := { program := "ytbegngilbngnoaadoor", sum := "8dc3e285250dcf6ed08e94cbc9d1083bcec02ea8dc991e71a532e48625291c87", func := "wringer/wringerlaw19.ZerosBack", spec := "zerosBack", inPlace := ["internal/bytealg.IndexByteString", "internal/bytealg.IndexString", "internal/bytealg.MakeNoZero"], named := ["unicode/utf8.first", "unicode/utf8.acceptRanges", "internal/bytealg.MaxLen"], apart := false, laid := [("unicode/utf8.acceptRanges", laid_unicode_utf8_acceptRanges), ("unicode/utf8.first", laid_unicode_utf8_first)], narrowed := true }
def ZerosBackUptoSaid : Prop := zerosBackUptoRow.holds Tryd.pinned (OpenSpec.upto zerosBackSpec)

/-- 'wringerlaw19.ZerosRuns', WHERE WHAT IT READS IS OF BULK AT MOST 1048576: true; the input reads as it did. -/
def zerosRunsUptoRow : OpenClaim := { program := "ytbegngilbngnoaadoor", sum := "8dc3e285250dcf6ed08e94cbc9d1083bcec02ea8dc991e71a532e48625291c87", func := "wringer/wringerlaw19.ZerosRuns", spec := "zerosRuns", inPlace := ["internal/bytealg.IndexByteString", "internal/bytealg.IndexString", "internal/bytealg.MakeNoZero"], named := ["unicode/utf8.first", "unicode/utf8.acceptRanges", "internal/bytealg.MaxLen"], apart := false, laid := [("unicode/utf8.acceptRanges", laid_unicode_utf8_acceptRanges), ("unicode/utf8.first", laid_unicode_utf8_first)], narrowed := true }
def ZerosRunsUptoSaid : Prop := zerosRunsUptoRow.holds Tryd.pinned (OpenSpec.upto zerosRunsSpec)

/-- 'wringertop.TopPacked', WHERE WHAT IT READS IS OF BULK AT MOST 1048576: true; the input reads as it did. -/
def topPackedUptoRow : OpenClaim := { program := "ytbegngilbngnoaadoor", sum := "8dc3e285250dcf6ed08e94cbc9d1083bcec02ea8dc991e71a532e48625291c87", func := "wringer/wringertop.TopPacked", spec := "topPacked", inPlace := ["internal/bytealg.IndexByteString", "internal/bytealg.IndexString"], unfollowed := true, recurses := true, named := ["unicode/utf8.first", "unicode/utf8.acceptRanges", "internal/bytealg.MaxLen"], apart := false, laid := [("unicode/utf8.acceptRanges", laid_unicode_utf8_acceptRanges), ("unicode/utf8.first", laid_unicode_utf8_first)], narrowed := true }
def TopPackedUptoSaid : Prop := topPackedUptoRow.holds Tryd.pinned (OpenSpec.upto topPackedSpec)

end Rows
end Go.Proofs.YtbegngilbngnoaaDoor
