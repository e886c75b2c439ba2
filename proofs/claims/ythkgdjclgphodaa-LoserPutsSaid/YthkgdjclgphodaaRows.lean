/-
  No cell of these rows narrows 'for every input' (looked for: loops, veiled, ifaces, maps, wideKeys, modest, calm, conditions, laid).
  DERIVED. THE GIVEN ROWS OF THIS SEAT. 5 by the template 'for every input the law returns true; each argument reads behind the call as it read before'; 0 by the template 'total and deterministic' (their statements: YthkgdjclgphodaaTotals.lean).
  GIVEN WITH THE SEED: the statements are not yours to turn. If you find one false, say at which input.
  Laid BY PROGRAM, IN A SANDBOX (cutbox-rows.mjs): the forced cells as the released guide's own fill.sh prints them over the translation 616f1659de931c1f… (all of the seat's roots in one cut). By AI agents, Wed Nov 11 2026. No macro, syntax, notation, axiom, sorry.
-/
import Derived.Test.YthkgdjclgphodaaChecked
import GoSem.Claim
import GoSem.ClaimJoined
import GoSem.ClaimMapViews
import Derived.JoinedTies
import Derived.KernelRfl
namespace Go.Proofs.Ythkgdjclgphodaa
/- THE CELL 'sum', in the pinned program and in every row, IS THE sha256 OF THE DUMP (.gsa) THAT YthkgdjclgphodaaProg.lean LOADS. Nothing in Lean hashes anything: it is a label: what it is worth is what the hold of that sum in a sandbox is worth. -/
noncomputable def Try.pinned : Pinned := { name := "ythkgdjclgphodaa", sum := "616f1659de931c1fe6a2040d65b53ecbd3b875411d00651fb7672fbe3d15a03f", checked := Try.checked }
namespace Rows
def none {H : Type} : Left H := { results := [], args := [] }

/-- 'wringerlaw08.LoserMakes': WHATEVER THE INPUT: true; the input reads as it did. -/
def loserMakesSpec : ChangeSpec := { name := "loserMakes", fn := fun _ => fun
  | [d] => { results := [.lit (.bool true)], args := [d] }
  | _ => none }
def loserMakesRow : OpenClaim := { program := "ythkgdjclgphodaa", sum := "616f1659de931c1fe6a2040d65b53ecbd3b875411d00651fb7672fbe3d15a03f", func := "wringer/wringerlaw08.LoserMakes", spec := "loserMakes", unfollowed := true, recurses := true, apart := false }
def LoserMakesSaid : Prop := loserMakesRow.holds Try.pinned (OpenSpec.ofChange loserMakesSpec)

/-- ITS FALSE NEIGHBOUR: 'it returns false'. Refute it at one input. -/
def loserMakesWrong : ChangeSpec := { name := "loserMakes", fn := fun _ => fun
  | [d] => { results := [.lit (.bool false)], args := [d] }
  | _ => none }
def LoserMakesWrongFalsely : Prop := loserMakesRow.holds Try.pinned (OpenSpec.ofChange loserMakesWrong)

/-- 'wringerlaw08.LoserPuts': WHATEVER THE INPUT: true; the input reads as it did. -/
def loserPutsSpec : ChangeSpec := { name := "loserPuts", fn := fun _ => fun
  | [d1, d2, d3] => { results := [.lit (.bool true)], args := [d1, d2, d3] }
  | _ => none }
def loserPutsRow : OpenClaim := { program := "ythkgdjclgphodaa", sum := "616f1659de931c1fe6a2040d65b53ecbd3b875411d00651fb7672fbe3d15a03f", func := "wringer/wringerlaw08.LoserPuts", spec := "loserPuts", unfollowed := true, recurses := true, apart := false }
def LoserPutsSaid : Prop := loserPutsRow.holds Try.pinned (OpenSpec.ofChange loserPutsSpec)

/-- ITS FALSE NEIGHBOUR: 'it returns false'. Refute it at one input. -/
def loserPutsWrong : ChangeSpec := { name := "loserPuts", fn := fun _ => fun
  | [d1, d2, d3] => { results := [.lit (.bool false)], args := [d1, d2, d3] }
  | _ => none }
def LoserPutsWrongFalsely : Prop := loserPutsRow.holds Try.pinned (OpenSpec.ofChange loserPutsWrong)

/-- 'wringerlaw08.LoserSorted': WHATEVER THE INPUT: true; the input reads as it did. -/
def loserSortedSpec : ChangeSpec := { name := "loserSorted", fn := fun _ => fun
  | [d] => { results := [.lit (.bool true)], args := [d] }
  | _ => none }
def loserSortedRow : OpenClaim := { program := "ythkgdjclgphodaa", sum := "616f1659de931c1fe6a2040d65b53ecbd3b875411d00651fb7672fbe3d15a03f", func := "wringer/wringerlaw08.LoserSorted", spec := "loserSorted", unfollowed := true, recurses := true, apart := false }
def LoserSortedSaid : Prop := loserSortedRow.holds Try.pinned (OpenSpec.ofChange loserSortedSpec)

/-- ITS FALSE NEIGHBOUR: 'it returns false'. Refute it at one input. -/
def loserSortedWrong : ChangeSpec := { name := "loserSorted", fn := fun _ => fun
  | [d] => { results := [.lit (.bool false)], args := [d] }
  | _ => none }
def LoserSortedWrongFalsely : Prop := loserSortedRow.holds Try.pinned (OpenSpec.ofChange loserSortedWrong)

/-- 'wringerlaw08.LoserLeast': WHATEVER THE INPUT: true; the input reads as it did. -/
def loserLeastSpec : ChangeSpec := { name := "loserLeast", fn := fun _ => fun
  | [d] => { results := [.lit (.bool true)], args := [d] }
  | _ => none }
def loserLeastRow : OpenClaim := { program := "ythkgdjclgphodaa", sum := "616f1659de931c1fe6a2040d65b53ecbd3b875411d00651fb7672fbe3d15a03f", func := "wringer/wringerlaw08.LoserLeast", spec := "loserLeast", unfollowed := true, recurses := true, apart := false }
def LoserLeastSaid : Prop := loserLeastRow.holds Try.pinned (OpenSpec.ofChange loserLeastSpec)

/-- ITS FALSE NEIGHBOUR: 'it returns false'. Refute it at one input. -/
def loserLeastWrong : ChangeSpec := { name := "loserLeast", fn := fun _ => fun
  | [d] => { results := [.lit (.bool false)], args := [d] }
  | _ => none }
def LoserLeastWrongFalsely : Prop := loserLeastRow.holds Try.pinned (OpenSpec.ofChange loserLeastWrong)

/-- 'wringerlaw08.LoserShort': WHATEVER THE INPUT: true; the input reads as it did. -/
def loserShortSpec : ChangeSpec := { name := "loserShort", fn := fun _ => fun
  | [d1, d2] => { results := [.lit (.bool true)], args := [d1, d2] }
  | _ => none }
def loserShortRow : OpenClaim := { program := "ythkgdjclgphodaa", sum := "616f1659de931c1fe6a2040d65b53ecbd3b875411d00651fb7672fbe3d15a03f", func := "wringer/wringerlaw08.LoserShort", spec := "loserShort", unfollowed := true, recurses := true, apart := false }
def LoserShortSaid : Prop := loserShortRow.holds Try.pinned (OpenSpec.ofChange loserShortSpec)

/-- ITS FALSE NEIGHBOUR: 'it returns false'. Refute it at one input. -/
def loserShortWrong : ChangeSpec := { name := "loserShort", fn := fun _ => fun
  | [d1, d2] => { results := [.lit (.bool false)], args := [d1, d2] }
  | _ => none }
def LoserShortWrongFalsely : Prop := loserShortRow.holds Try.pinned (OpenSpec.ofChange loserShortWrong)

/- THE SECOND FORM. 'bulk': how many values and letters a reading holds, each counted each time it is reached (what is shared counts as often as it is met; a slice's spare places count too). A statement '..UptoSaid' is the law's where the arguments, and the package variables that the reading takes, are together of bulk at most 1048576: NARROWER than '..Said'. Prove '..Said' where nothing that the law and all that it calls make is longer than what came in: it says more and counts as full. Else prove '..UptoSaid'. A law counts once. -/
mutual
def uptoBulk {H : Type} : DataW H → Nat
  | .lit (.string bytes) => bytes.length + 1
  | .lit _ => 1
  | .nil => 1
  | .ptr d => uptoBulk d + 1
  | .slice elems spare => uptoBulkAll elems + uptoBulkAll spare + 1
  | .agg parts => uptoBulkAll parts + 1
  | .iface _ d => uptoBulk d + 1
  | .map entries => uptoBulkEntries entries + 1
  | .held _ => 1
def uptoBulkAll {H : Type} : List (DataW H) → Nat
  | [] => 0
  | d :: r => uptoBulk d + uptoBulkAll r
def uptoBulkEntries {H : Type} : List (Lit × DataW H) → Nat
  | [] => 0
  | x :: r => uptoBulkEntry x + uptoBulkEntries r
def uptoBulkEntry {H : Type} : Lit × DataW H → Nat
  | (.string bytes, d) => bytes.length + uptoBulk d + 1
  | (_, d) => uptoBulk d + 1
 end
def uptoSmall : (H : Type) → List (DataW H) → Bool := fun _ ds => decide (uptoBulkAll ds ≤ 1048576)
def OpenSpec.upto (s : _root_.Go.ChangeSpec) : _root_.Go.OpenSpec := { _root_.Go.OpenSpec.ofChange s with cond := some uptoSmall }

/-- 'wringerlaw08.LoserMakes', WHERE WHAT IT READS IS OF BULK AT MOST 1048576: true; the input reads as it did. -/
def loserMakesUptoRow : OpenClaim := { program := "ythkgdjclgphodaa", sum := "616f1659de931c1fe6a2040d65b53ecbd3b875411d00651fb7672fbe3d15a03f", func := "wringer/wringerlaw08.LoserMakes", spec := "loserMakes", unfollowed := true, recurses := true, apart := false, narrowed := true }
def LoserMakesUptoSaid : Prop := loserMakesUptoRow.holds Try.pinned (OpenSpec.upto loserMakesSpec)

/-- 'wringerlaw08.LoserPuts', WHERE WHAT IT READS IS OF BULK AT MOST 1048576: true; the input reads as it did. -/
def loserPutsUptoRow : OpenClaim := { program := "ythkgdjclgphodaa", sum := "616f1659de931c1fe6a2040d65b53ecbd3b875411d00651fb7672fbe3d15a03f", func := "wringer/wringerlaw08.LoserPuts", spec := "loserPuts", unfollowed := true, recurses := true, apart := false, narrowed := true }
def LoserPutsUptoSaid : Prop := loserPutsUptoRow.holds Try.pinned (OpenSpec.upto loserPutsSpec)

/-- 'wringerlaw08.LoserSorted', WHERE WHAT IT READS IS OF BULK AT MOST 1048576: true; the input reads as it did. -/
def loserSortedUptoRow : OpenClaim := { program := "ythkgdjclgphodaa", sum := "616f1659de931c1fe6a2040d65b53ecbd3b875411d00651fb7672fbe3d15a03f", func := "wringer/wringerlaw08.LoserSorted", spec := "loserSorted", unfollowed := true, recurses := true, apart := false, narrowed := true }
def LoserSortedUptoSaid : Prop := loserSortedUptoRow.holds Try.pinned (OpenSpec.upto loserSortedSpec)

/-- 'wringerlaw08.LoserLeast', WHERE WHAT IT READS IS OF BULK AT MOST 1048576: true; the input reads as it did. -/
def loserLeastUptoRow : OpenClaim := { program := "ythkgdjclgphodaa", sum := "616f1659de931c1fe6a2040d65b53ecbd3b875411d00651fb7672fbe3d15a03f", func := "wringer/wringerlaw08.LoserLeast", spec := "loserLeast", unfollowed := true, recurses := true, apart := false, narrowed := true }
def LoserLeastUptoSaid : Prop := loserLeastUptoRow.holds Try.pinned (OpenSpec.upto loserLeastSpec)

/-- 'wringerlaw08.LoserShort', WHERE WHAT IT READS IS OF BULK AT MOST 1048576: true; the input reads as it did. -/
def loserShortUptoRow : OpenClaim := { program := "ythkgdjclgphodaa", sum := "616f1659de931c1fe6a2040d65b53ecbd3b875411d00651fb7672fbe3d15a03f", func := "wringer/wringerlaw08.LoserShort", spec := "loserShort", unfollowed := true, recurses := true, apart := false, narrowed := true }
def LoserShortUptoSaid : Prop := loserShortUptoRow.holds Try.pinned (OpenSpec.upto loserShortSpec)

end Rows
end Go.Proofs.Ythkgdjclgphodaa
