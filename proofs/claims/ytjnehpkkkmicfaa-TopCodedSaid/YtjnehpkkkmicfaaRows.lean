/-
  No cell of these rows narrows 'for every input' (looked for: loops, veiled, ifaces, maps, wideKeys, modest, calm, conditions, laid).
  DERIVED. THE GIVEN ROWS OF THIS SEAT. 8 by the template 'for every input the law returns true; each argument reads behind the call as it read before'; 0 by the template 'total and deterministic' (their statements: YtjnehpkkkmicfaaTotals.lean).
  GIVEN WITH THE SEED: the statements are not yours to turn. If you find one false, say at which input.
  Laid BY PROGRAM, IN A SANDBOX (cutbox-rows.mjs): the forced cells as the released guide's own fill.sh prints them over the translation 13bc4e14eb3f1887… (all of the seat's roots in one cut). By AI agents, Wed Nov 11 2026. No macro, syntax, notation, axiom, sorry.
-/
import Derived.Test.YtjnehpkkkmicfaaChecked
import GoSem.Claim
import GoSem.ClaimJoined
import GoSem.ClaimMapViews
import Derived.JoinedTies
import Derived.KernelRfl
namespace Go.Proofs.Ytjnehpkkkmicfaa
/- THE CELL 'sum', in the pinned program and in every row, IS THE sha256 OF THE DUMP (.gsa) THAT YtjnehpkkkmicfaaProg.lean LOADS. Nothing in Lean hashes anything: it is a label: what it is worth is what the hold of that sum in a sandbox is worth. -/
noncomputable def Try.pinned : Pinned := { name := "ytjnehpkkkmicfaa", sum := "13bc4e14eb3f1887518cd06c3254ed59b21ba0ec99cacd857d80e2c70d11589f", checked := Try.checked }
namespace Rows
def none {H : Type} : Left H := { results := [], args := [] }

/-- 'wringerlaw21.CanonCodes': WHATEVER THE INPUT: true; the input reads as it did. -/
def canonCodesSpec : ChangeSpec := { name := "canonCodes", fn := fun _ => fun
  | [d1, d2, d3] => { results := [.lit (.bool true)], args := [d1, d2, d3] }
  | _ => none }
def canonCodesRow : OpenClaim := { program := "ytjnehpkkkmicfaa", sum := "13bc4e14eb3f1887518cd06c3254ed59b21ba0ec99cacd857d80e2c70d11589f", func := "wringer/wringerlaw21.CanonCodes", spec := "canonCodes", apart := false }
def CanonCodesSaid : Prop := canonCodesRow.holds Try.pinned (OpenSpec.ofChange canonCodesSpec)

/-- ITS FALSE NEIGHBOUR: 'it returns false'. Refute it at one input. -/
def canonCodesWrong : ChangeSpec := { name := "canonCodes", fn := fun _ => fun
  | [d1, d2, d3] => { results := [.lit (.bool false)], args := [d1, d2, d3] }
  | _ => none }
def CanonCodesWrongFalsely : Prop := canonCodesRow.holds Try.pinned (OpenSpec.ofChange canonCodesWrong)

/-- 'wringerlaw21.CanonBits': WHATEVER THE INPUT: true; the input reads as it did. -/
def canonBitsSpec : ChangeSpec := { name := "canonBits", fn := fun _ => fun
  | [d1, d2, d3, d4] => { results := [.lit (.bool true)], args := [d1, d2, d3, d4] }
  | _ => none }
def canonBitsRow : OpenClaim := { program := "ytjnehpkkkmicfaa", sum := "13bc4e14eb3f1887518cd06c3254ed59b21ba0ec99cacd857d80e2c70d11589f", func := "wringer/wringerlaw21.CanonBits", spec := "canonBits", apart := false }
def CanonBitsSaid : Prop := canonBitsRow.holds Try.pinned (OpenSpec.ofChange canonBitsSpec)

/-- ITS FALSE NEIGHBOUR: 'it returns false'. Refute it at one input. -/
def canonBitsWrong : ChangeSpec := { name := "canonBits", fn := fun _ => fun
  | [d1, d2, d3, d4] => { results := [.lit (.bool false)], args := [d1, d2, d3, d4] }
  | _ => none }
def CanonBitsWrongFalsely : Prop := canonBitsRow.holds Try.pinned (OpenSpec.ofChange canonBitsWrong)

/-- 'wringerlaw21.CanonBack': WHATEVER THE INPUT: true; the input reads as it did. -/
def canonBackSpec : ChangeSpec := { name := "canonBack", fn := fun _ => fun
  | [d1, d2, d3] => { results := [.lit (.bool true)], args := [d1, d2, d3] }
  | _ => none }
def canonBackRow : OpenClaim := { program := "ytjnehpkkkmicfaa", sum := "13bc4e14eb3f1887518cd06c3254ed59b21ba0ec99cacd857d80e2c70d11589f", func := "wringer/wringerlaw21.CanonBack", spec := "canonBack", apart := false }
def CanonBackSaid : Prop := canonBackRow.holds Try.pinned (OpenSpec.ofChange canonBackSpec)

/-- ITS FALSE NEIGHBOUR: 'it returns false'. Refute it at one input. -/
def canonBackWrong : ChangeSpec := { name := "canonBack", fn := fun _ => fun
  | [d1, d2, d3] => { results := [.lit (.bool false)], args := [d1, d2, d3] }
  | _ => none }
def CanonBackWrongFalsely : Prop := canonBackRow.holds Try.pinned (OpenSpec.ofChange canonBackWrong)

/-- 'wringerlaw21.CanonApart': WHATEVER THE INPUT: true; the input reads as it did. -/
def canonApartSpec : ChangeSpec := { name := "canonApart", fn := fun _ => fun
  | [d] => { results := [.lit (.bool true)], args := [d] }
  | _ => none }
def canonApartRow : OpenClaim := { program := "ytjnehpkkkmicfaa", sum := "13bc4e14eb3f1887518cd06c3254ed59b21ba0ec99cacd857d80e2c70d11589f", func := "wringer/wringerlaw21.CanonApart", spec := "canonApart", apart := false }
def CanonApartSaid : Prop := canonApartRow.holds Try.pinned (OpenSpec.ofChange canonApartSpec)

/-- ITS FALSE NEIGHBOUR: 'it returns false'. Refute it at one input. -/
def canonApartWrong : ChangeSpec := { name := "canonApart", fn := fun _ => fun
  | [d] => { results := [.lit (.bool false)], args := [d] }
  | _ => none }
def CanonApartWrongFalsely : Prop := canonApartRow.holds Try.pinned (OpenSpec.ofChange canonApartWrong)

/-- 'wringerlaw21.CanonLengths': WHATEVER THE INPUT: true; the input reads as it did. -/
def canonLengthsSpec : ChangeSpec := { name := "canonLengths", fn := fun _ => fun
  | [d] => { results := [.lit (.bool true)], args := [d] }
  | _ => none }
def canonLengthsRow : OpenClaim := { program := "ytjnehpkkkmicfaa", sum := "13bc4e14eb3f1887518cd06c3254ed59b21ba0ec99cacd857d80e2c70d11589f", func := "wringer/wringerlaw21.CanonLengths", spec := "canonLengths", unfollowed := true, recurses := true, apart := false }
def CanonLengthsSaid : Prop := canonLengthsRow.holds Try.pinned (OpenSpec.ofChange canonLengthsSpec)

/-- ITS FALSE NEIGHBOUR: 'it returns false'. Refute it at one input. -/
def canonLengthsWrong : ChangeSpec := { name := "canonLengths", fn := fun _ => fun
  | [d] => { results := [.lit (.bool false)], args := [d] }
  | _ => none }
def CanonLengthsWrongFalsely : Prop := canonLengthsRow.holds Try.pinned (OpenSpec.ofChange canonLengthsWrong)

/-- 'wringerlaw22.TableBack': WHATEVER THE INPUT: true; the input reads as it did. -/
def tableBackSpec : ChangeSpec := { name := "tableBack", fn := fun _ => fun
  | [d1, d2, d3, d4] => { results := [.lit (.bool true)], args := [d1, d2, d3, d4] }
  | _ => none }
def tableBackRow : OpenClaim := { program := "ytjnehpkkkmicfaa", sum := "13bc4e14eb3f1887518cd06c3254ed59b21ba0ec99cacd857d80e2c70d11589f", func := "wringer/wringerlaw22.TableBack", spec := "tableBack", inPlace := ["internal/reflectlite.TypeOf"], unfollowed := true, recurses := true, apart := false }
def TableBackSaid : Prop := tableBackRow.holds Try.pinned (OpenSpec.ofChange tableBackSpec)

/-- ITS FALSE NEIGHBOUR: 'it returns false'. Refute it at one input. -/
def tableBackWrong : ChangeSpec := { name := "tableBack", fn := fun _ => fun
  | [d1, d2, d3, d4] => { results := [.lit (.bool false)], args := [d1, d2, d3, d4] }
  | _ => none }
def TableBackWrongFalsely : Prop := tableBackRow.holds Try.pinned (OpenSpec.ofChange tableBackWrong)

/-- 'wringerlaw22.TableCut': WHATEVER THE INPUT: true; the input reads as it did. -/
def tableCutSpec : ChangeSpec := { name := "tableCut", fn := fun _ => fun
  | [d1, d2] => { results := [.lit (.bool true)], args := [d1, d2] }
  | _ => none }
def tableCutRow : OpenClaim := { program := "ytjnehpkkkmicfaa", sum := "13bc4e14eb3f1887518cd06c3254ed59b21ba0ec99cacd857d80e2c70d11589f", func := "wringer/wringerlaw22.TableCut", spec := "tableCut", inPlace := ["internal/reflectlite.TypeOf"], unfollowed := true, recurses := true, apart := false }
def TableCutSaid : Prop := tableCutRow.holds Try.pinned (OpenSpec.ofChange tableCutSpec)

/-- ITS FALSE NEIGHBOUR: 'it returns false'. Refute it at one input. -/
def tableCutWrong : ChangeSpec := { name := "tableCut", fn := fun _ => fun
  | [d1, d2] => { results := [.lit (.bool false)], args := [d1, d2] }
  | _ => none }
def TableCutWrongFalsely : Prop := tableCutRow.holds Try.pinned (OpenSpec.ofChange tableCutWrong)

/-- 'wringertop.TopCoded': WHATEVER THE INPUT: true; the input reads as it did. -/
def topCodedSpec : ChangeSpec := { name := "topCoded", fn := fun _ => fun
  | [d] => { results := [.lit (.bool true)], args := [d] }
  | _ => none }
def topCodedRow : OpenClaim := { program := "ytjnehpkkkmicfaa", sum := "13bc4e14eb3f1887518cd06c3254ed59b21ba0ec99cacd857d80e2c70d11589f", func := "wringer/wringertop.TopCoded", spec := "topCoded", inPlace := ["internal/reflectlite.TypeOf"], unfollowed := true, recurses := true, apart := false }
def TopCodedSaid : Prop := topCodedRow.holds Try.pinned (OpenSpec.ofChange topCodedSpec)

/-- ITS FALSE NEIGHBOUR: 'it returns false'. Refute it at one input. -/
def topCodedWrong : ChangeSpec := { name := "topCoded", fn := fun _ => fun
  | [d] => { results := [.lit (.bool false)], args := [d] }
  | _ => none }
def TopCodedWrongFalsely : Prop := topCodedRow.holds Try.pinned (OpenSpec.ofChange topCodedWrong)

/- THE SECOND FORM. 'bulk': how many values and letters a reading holds, each counted each time it is reached (what is shared counts as often as it is met; a slice's spare places count too). A statement '..UptoSaid' is the law's where the arguments, and the package variables that the reading takes, are together of bulk at most 1048576: NARROWER than '..Said'. Prove '..Said' where nothing that the law and all that it calls make is longer than what came in: it says more and counts as full. Else prove '..UptoSaid'. A law counts once. -/
mutual
def uptoBulk {H : Type} : DataW H → Nat
  | .lit (.string bytes) => bytes.length + 1
  | .lit _ => 1
  | .nil => 1
  | .ptr d => uptoBulk d + 1
  | .slice elems spare => uptoBulkAll elems + uptoBulkAll spare + 1
  | .agg parts => uptoBulkAll parts + 1
  | .iface _ d => uptoBulk d + 1
  | .map entries => uptoBulkEntries entries + 1
  | .held _ => 1
def uptoBulkAll {H : Type} : List (DataW H) → Nat
  | [] => 0
  | d :: r => uptoBulk d + uptoBulkAll r
def uptoBulkEntries {H : Type} : List (Lit × DataW H) → Nat
  | [] => 0
  | x :: r => uptoBulkEntry x + uptoBulkEntries r
def uptoBulkEntry {H : Type} : Lit × DataW H → Nat
  | (.string bytes, d) => bytes.length + uptoBulk d + 1
  | (_, d) => uptoBulk d + 1
 end
def uptoSmall : (H : Type) → List (DataW H) → Bool := fun _ ds => decide (uptoBulkAll ds ≤ 1048576)
def OpenSpec.upto (s : _root_.Go.ChangeSpec) : _root_.Go.OpenSpec := { _root_.Go.OpenSpec.ofChange s with cond := some uptoSmall }

/-- 'wringerlaw21.CanonCodes', WHERE WHAT IT READS IS OF BULK AT MOST 1048576: true; the input reads as it did. -/
def canonCodesUptoRow : OpenClaim := { program := "ytjnehpkkkmicfaa", sum := "13bc4e14eb3f1887518cd06c3254ed59b21ba0ec99cacd857d80e2c70d11589f", func := "wringer/wringerlaw21.CanonCodes", spec := "canonCodes", apart := false, narrowed := true }
def CanonCodesUptoSaid : Prop := canonCodesUptoRow.holds Try.pinned (OpenSpec.upto canonCodesSpec)

/-- 'wringerlaw21.CanonBits', WHERE WHAT IT READS IS OF BULK AT MOST 1048576: true; the input reads as it did. -/
def canonBitsUptoRow : OpenClaim := { program := "ytjnehpkkkmicfaa", sum := "13bc4e14eb3f1887518cd06c3254ed59b21ba0ec99cacd857d80e2c70d11589f", func := "wringer/wringerlaw21.CanonBits", spec := "canonBits", apart := false, narrowed := true }
def CanonBitsUptoSaid : Prop := canonBitsUptoRow.holds Try.pinned (OpenSpec.upto canonBitsSpec)

/-- 'wringerlaw21.CanonBack', WHERE WHAT IT READS IS OF BULK AT MOST 1048576: true; the input reads as it did. -/
def canonBackUptoRow : OpenClaim := { program := "ytjnehpkkkmicfaa", sum := "13bc4e14eb3f1887518cd06c3254ed59b21ba0ec99cacd857d80e2c70d11589f", func := "wringer/wringerlaw21.CanonBack", spec := "canonBack", apart := false, narrowed := true }
def CanonBackUptoSaid : Prop := canonBackUptoRow.holds Try.pinned (OpenSpec.upto canonBackSpec)

/-- 'wringerlaw21.CanonApart', WHERE WHAT IT READS IS OF BULK AT MOST 1048576: true; the input reads as it did. -/
def canonApartUptoRow : OpenClaim := { program := "ytjnehpkkkmicfaa", sum := "13bc4e14eb3f1887518cd06c3254ed59b21ba0ec99cacd857d80e2c70d11589f", func := "wringer/wringerlaw21.CanonApart", spec := "canonApart", apart := false, narrowed := true }
def CanonApartUptoSaid : Prop := canonApartUptoRow.holds Try.pinned (OpenSpec.upto canonApartSpec)

/-- 'wringerlaw21.CanonLengths', WHERE WHAT IT READS IS OF BULK AT MOST 1048576: true; the input reads as it did. -/
def canonLengthsUptoRow : OpenClaim := { program := "ytjnehpkkkmicfaa", sum := "13bc4e14eb3f1887518cd06c3254ed59b21ba0ec99cacd857d80e2c70d11589f", func := "wringer/wringerlaw21.CanonLengths", spec := "canonLengths", unfollowed := true, recurses := true, apart := false, narrowed := true }
def CanonLengthsUptoSaid : Prop := canonLengthsUptoRow.holds Try.pinned (OpenSpec.upto canonLengthsSpec)

/-- 'wringerlaw22.TableBack', WHERE WHAT IT READS IS OF BULK AT MOST 1048576: true; the input reads as it did. -/
def tableBackUptoRow : OpenClaim := { program := "ytjnehpkkkmicfaa", sum := "13bc4e14eb3f1887518cd06c3254ed59b21ba0ec99cacd857d80e2c70d11589f", func := "wringer/wringerlaw22.TableBack", spec := "tableBack", inPlace := ["internal/reflectlite.TypeOf"], unfollowed := true, recurses := true, apart := false, narrowed := true }
def TableBackUptoSaid : Prop := tableBackUptoRow.holds Try.pinned (OpenSpec.upto tableBackSpec)

/-- 'wringerlaw22.TableCut', WHERE WHAT IT READS IS OF BULK AT MOST 1048576: true; the input reads as it did. -/
def tableCutUptoRow : OpenClaim := { program := "ytjnehpkkkmicfaa", sum := "13bc4e14eb3f1887518cd06c3254ed59b21ba0ec99cacd857d80e2c70d11589f", func := "wringer/wringerlaw22.TableCut", spec := "tableCut", inPlace := ["internal/reflectlite.TypeOf"], unfollowed := true, recurses := true, apart := false, narrowed := true }
def TableCutUptoSaid : Prop := tableCutUptoRow.holds Try.pinned (OpenSpec.upto tableCutSpec)

/-- 'wringertop.TopCoded', WHERE WHAT IT READS IS OF BULK AT MOST 1048576: true; the input reads as it did. -/
def topCodedUptoRow : OpenClaim := { program := "ytjnehpkkkmicfaa", sum := "13bc4e14eb3f1887518cd06c3254ed59b21ba0ec99cacd857d80e2c70d11589f", func := "wringer/wringertop.TopCoded", spec := "topCoded", inPlace := ["internal/reflectlite.TypeOf"], unfollowed := true, recurses := true, apart := false, narrowed := true }
def TopCodedUptoSaid : Prop := topCodedUptoRow.holds Try.pinned (OpenSpec.upto topCodedSpec)

end Rows
end Go.Proofs.Ytjnehpkkkmicfaa
