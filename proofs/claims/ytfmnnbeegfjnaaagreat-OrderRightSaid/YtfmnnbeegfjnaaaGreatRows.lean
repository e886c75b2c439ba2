/-
  No cell of these rows narrows 'for every input' (looked for: loops, veiled, ifaces, maps, wideKeys, modest, calm, conditions, laid).
  DERIVED. THE GIVEN ROWS OF THIS SEAT. 6 by the template 'for every input the law returns true; each argument reads behind the call as it read before'; 0 by the template 'total and deterministic' (their statements: YtfmnnbeegfjnaaaGreatTotals.lean).
  GIVEN WITH THE SEED: the statements are not yours to turn. If you find one false, say at which input.
  Laid BY PROGRAM, IN A SANDBOX (cutbox-rows.mjs): the forced cells as the released guide's own fill.sh prints them over the translation f316b1521bd2ea03… (all of the seat's roots in one cut). By AI agents, Wed Nov 11 2026. No macro, syntax, notation, axiom, sorry.
-/
import Derived.Test.YtfmnnbeegfjnaaaGreatChecked
import GoSem.Claim
import GoSem.ClaimJoined
import GoSem.ClaimMapViews
import Derived.JoinedTies
import Derived.KernelRfl
namespace Go.Proofs.YtfmnnbeegfjnaaaGreat
/- THE CELL 'sum', in the pinned program and in every row, IS THE sha256 OF THE DUMP (.gsa) THAT YtfmnnbeegfjnaaaGreatProg.lean LOADS. Nothing in Lean hashes anything: it is a label: what it is worth is what the hold of that sum in a sandbox is worth. -/
noncomputable def Tryz.pinned : Pinned := { name := "ytfmnnbeegfjnaaagreat", sum := "f316b1521bd2ea0303ba5f91d9b962fecc05a059cf34abb88e230cfecc8478c8", checked := Tryz.checked }
namespace Rows
def none {H : Type} : Left H := { results := [], args := [] }

/-- 'wringerlaw12.OrderEnds': WHATEVER THE INPUT: true; the input reads as it did. -/
def orderEndsSpec : ChangeSpec := { name := "orderEnds", fn := fun _ => fun
  | [d1, d2] => { results := [.lit (.bool true)], args := [d1, d2] }
  | _ => none }
def orderEndsRow : OpenClaim := { program := "ytfmnnbeegfjnaaagreat", sum := "f316b1521bd2ea0303ba5f91d9b962fecc05a059cf34abb88e230cfecc8478c8", func := "wringer/wringerlaw12.OrderEnds", spec := "orderEnds", inPlace := ["slices.overlaps[int]", "slices.overlaps[byte]"], unfollowed := true, recurses := true, apart := false }
def OrderEndsSaid : Prop := orderEndsRow.holds Tryz.pinned (OpenSpec.ofChange orderEndsSpec)

/-- ITS FALSE NEIGHBOUR: 'it returns false'. Refute it at one input. -/
def orderEndsWrong : ChangeSpec := { name := "orderEnds", fn := fun _ => fun
  | [d1, d2] => { results := [.lit (.bool false)], args := [d1, d2] }
  | _ => none }
def OrderEndsWrongFalsely : Prop := orderEndsRow.holds Tryz.pinned (OpenSpec.ofChange orderEndsWrong)

/-- 'wringerlaw12.OrderColumns': WHATEVER THE INPUT: true; the input reads as it did. -/
def orderColumnsSpec : ChangeSpec := { name := "orderColumns", fn := fun _ => fun
  | [d1, d2, d3] => { results := [.lit (.bool true)], args := [d1, d2, d3] }
  | _ => none }
def orderColumnsRow : OpenClaim := { program := "ytfmnnbeegfjnaaagreat", sum := "f316b1521bd2ea0303ba5f91d9b962fecc05a059cf34abb88e230cfecc8478c8", func := "wringer/wringerlaw12.OrderColumns", spec := "orderColumns", inPlace := ["slices.overlaps[int]", "slices.overlaps[byte]"], unfollowed := true, recurses := true, apart := false }
def OrderColumnsSaid : Prop := orderColumnsRow.holds Tryz.pinned (OpenSpec.ofChange orderColumnsSpec)

/-- ITS FALSE NEIGHBOUR: 'it returns false'. Refute it at one input. -/
def orderColumnsWrong : ChangeSpec := { name := "orderColumns", fn := fun _ => fun
  | [d1, d2, d3] => { results := [.lit (.bool false)], args := [d1, d2, d3] }
  | _ => none }
def OrderColumnsWrongFalsely : Prop := orderColumnsRow.holds Tryz.pinned (OpenSpec.ofChange orderColumnsWrong)

/-- 'wringerlaw12.OrderLess': WHATEVER THE INPUT: true; the input reads as it did. -/
def orderLessSpec : ChangeSpec := { name := "orderLess", fn := fun _ => fun
  | [d] => { results := [.lit (.bool true)], args := [d] }
  | _ => none }
def orderLessRow : OpenClaim := { program := "ytfmnnbeegfjnaaagreat", sum := "f316b1521bd2ea0303ba5f91d9b962fecc05a059cf34abb88e230cfecc8478c8", func := "wringer/wringerlaw12.OrderLess", spec := "orderLess", inPlace := ["slices.overlaps[int]", "slices.overlaps[byte]"], unfollowed := true, recurses := true, apart := false }
def OrderLessSaid : Prop := orderLessRow.holds Tryz.pinned (OpenSpec.ofChange orderLessSpec)

/-- ITS FALSE NEIGHBOUR: 'it returns false'. Refute it at one input. -/
def orderLessWrong : ChangeSpec := { name := "orderLess", fn := fun _ => fun
  | [d] => { results := [.lit (.bool false)], args := [d] }
  | _ => none }
def OrderLessWrongFalsely : Prop := orderLessRow.holds Tryz.pinned (OpenSpec.ofChange orderLessWrong)

/-- 'wringerlaw12.OrderBack': WHATEVER THE INPUT: true; the input reads as it did. -/
def orderBackSpec : ChangeSpec := { name := "orderBack", fn := fun _ => fun
  | [d1, d2] => { results := [.lit (.bool true)], args := [d1, d2] }
  | _ => none }
def orderBackRow : OpenClaim := { program := "ytfmnnbeegfjnaaagreat", sum := "f316b1521bd2ea0303ba5f91d9b962fecc05a059cf34abb88e230cfecc8478c8", func := "wringer/wringerlaw12.OrderBack", spec := "orderBack", inPlace := ["slices.overlaps[int]", "slices.overlaps[byte]"], unfollowed := true, recurses := true, apart := false }
def OrderBackSaid : Prop := orderBackRow.holds Tryz.pinned (OpenSpec.ofChange orderBackSpec)

/-- ITS FALSE NEIGHBOUR: 'it returns false'. Refute it at one input. -/
def orderBackWrong : ChangeSpec := { name := "orderBack", fn := fun _ => fun
  | [d1, d2] => { results := [.lit (.bool false)], args := [d1, d2] }
  | _ => none }
def OrderBackWrongFalsely : Prop := orderBackRow.holds Tryz.pinned (OpenSpec.ofChange orderBackWrong)

/-- 'wringerlaw12.OrderRight': WHATEVER THE INPUT: true; the input reads as it did. -/
def orderRightSpec : ChangeSpec := { name := "orderRight", fn := fun _ => fun
  | [d1, d2, d3] => { results := [.lit (.bool true)], args := [d1, d2, d3] }
  | _ => none }
def orderRightRow : OpenClaim := { program := "ytfmnnbeegfjnaaagreat", sum := "f316b1521bd2ea0303ba5f91d9b962fecc05a059cf34abb88e230cfecc8478c8", func := "wringer/wringerlaw12.OrderRight", spec := "orderRight", inPlace := ["slices.overlaps[int]", "slices.overlaps[byte]"], unfollowed := true, recurses := true, apart := false }
def OrderRightSaid : Prop := orderRightRow.holds Tryz.pinned (OpenSpec.ofChange orderRightSpec)

/-- ITS FALSE NEIGHBOUR: 'it returns false'. Refute it at one input. -/
def orderRightWrong : ChangeSpec := { name := "orderRight", fn := fun _ => fun
  | [d1, d2, d3] => { results := [.lit (.bool false)], args := [d1, d2, d3] }
  | _ => none }
def OrderRightWrongFalsely : Prop := orderRightRow.holds Tryz.pinned (OpenSpec.ofChange orderRightWrong)

/-- 'wringerlaw13.SkewSamples': WHATEVER THE INPUT: true; the input reads as it did. -/
def skewSamplesSpec : ChangeSpec := { name := "skewSamples", fn := fun _ => fun
  | [d] => { results := [.lit (.bool true)], args := [d] }
  | _ => none }
def skewSamplesRow : OpenClaim := { program := "ytfmnnbeegfjnaaagreat", sum := "f316b1521bd2ea0303ba5f91d9b962fecc05a059cf34abb88e230cfecc8478c8", func := "wringer/wringerlaw13.SkewSamples", spec := "skewSamples", unfollowed := true, recurses := true, apart := false }
def SkewSamplesSaid : Prop := skewSamplesRow.holds Tryz.pinned (OpenSpec.ofChange skewSamplesSpec)

/-- ITS FALSE NEIGHBOUR: 'it returns false'. Refute it at one input. -/
def skewSamplesWrong : ChangeSpec := { name := "skewSamples", fn := fun _ => fun
  | [d] => { results := [.lit (.bool false)], args := [d] }
  | _ => none }
def SkewSamplesWrongFalsely : Prop := skewSamplesRow.holds Tryz.pinned (OpenSpec.ofChange skewSamplesWrong)

/- THE SECOND FORM. 'bulk': how many values and letters a reading holds, each counted each time it is reached (what is shared counts as often as it is met; a slice's spare places count too). A statement '..UptoSaid' is the law's where the arguments, and the package variables that the reading takes, are together of bulk at most 1048576: NARROWER than '..Said'. Prove '..Said' where nothing that the law and all that it calls make is longer than what came in: it says more and counts as full. Else prove '..UptoSaid'. A law counts once. -/
mutual
def uptoBulk {H : Type} : DataW H → Nat
  | .lit (.string bytes) => bytes.length + 1
  | .lit _ => 1
  | .nil => 1
  | .ptr d => uptoBulk d + 1
  | .slice elems spare => uptoBulkAll elems + uptoBulkAll spare + 1
  | .agg parts => uptoBulkAll parts + 1
  | .iface _ d => uptoBulk d + 1
  | .map entries => uptoBulkEntries entries + 1
  | .held _ => 1
def uptoBulkAll {H : Type} : List (DataW H) → Nat
  | [] => 0
  | d :: r => uptoBulk d + uptoBulkAll r
def uptoBulkEntries {H : Type} : List (Lit × DataW H) → Nat
  | [] => 0
  | x :: r => uptoBulkEntry x + uptoBulkEntries r
def uptoBulkEntry {H : Type} : Lit × DataW H → Nat
  | (.string bytes, d) => bytes.length + uptoBulk d + 1
  | (_, d) => uptoBulk d + 1
 end
def uptoSmall : (H : Type) → List (DataW H) → Bool := fun _ ds => decide (uptoBulkAll ds ≤ 1048576)
def OpenSpec.upto (s : _root_.Go.ChangeSpec) : _root_.Go.OpenSpec := { _root_.Go.OpenSpec.ofChange s with cond := some uptoSmall }

/-- 'wringerlaw12.OrderEnds', WHERE WHAT IT READS IS OF BULK AT MOST 1048576: true; the input reads as it did. -/
def orderEndsUptoRow : OpenClaim := { program := "ytfmnnbeegfjnaaagreat", sum := "f316b1521bd2ea0303ba5f91d9b962fecc05a059cf34abb88e230cfecc8478c8", func := "wringer/wringerlaw12.OrderEnds", spec := "orderEnds", inPlace := ["slices.overlaps[int]", "slices.overlaps[byte]"], unfollowed := true, recurses := true, apart := false, narrowed := true }
def OrderEndsUptoSaid : Prop := orderEndsUptoRow.holds Tryz.pinned (OpenSpec.upto orderEndsSpec)

/-- 'wringerlaw12.OrderColumns', WHERE WHAT IT READS IS OF BULK AT MOST 1048576: true; the input reads as it did. -/
def orderColumnsUptoRow : OpenClaim := { program := "ytfmnnbeegfjnaaagreat", sum := "f316b1521bd2ea0303ba5f91d9b962fecc05a059cf34abb88e230cfecc8478c8", func := "wringer/wringerlaw12.OrderColumns", spec := "orderColumns", inPlace := ["slices.overlaps[int]", "slices.overlaps[byte]"], unfollowed := true, recurses := true, apart := false, narrowed := true }
def OrderColumnsUptoSaid : Prop := orderColumnsUptoRow.holds Tryz.pinned (OpenSpec.upto orderColumnsSpec)

/-- 'wringerlaw12.OrderLess', WHERE WHAT IT READS IS OF BULK AT MOST 1048576: true; the input reads as it did. -/
def orderLessUptoRow : OpenClaim := { program := "ytfmnnbeegfjnaaagreat", sum := "f316b1521bd2ea0303ba5f91d9b962fecc05a059cf34abb88e230cfecc8478c8", func := "wringer/wringerlaw12.OrderLess", spec := "orderLess", inPlace := ["slices.overlaps[int]", "slices.overlaps[byte]"], unfollowed := true, recurses := true, apart := false, narrowed := true }
def OrderLessUptoSaid : Prop := orderLessUptoRow.holds Tryz.pinned (OpenSpec.upto orderLessSpec)

/-- 'wringerlaw12.OrderBack', WHERE WHAT IT READS IS OF BULK AT MOST 1048576: true; the input reads as it did. -/
def orderBackUptoRow : OpenClaim := { program := "ytfmnnbeegfjnaaagreat", sum := "f316b1521bd2ea0303ba5f91d9b962fecc05a059cf34abb88e230cfecc8478c8", func := "wringer/wringerlaw12.OrderBack", spec := "orderBack", inPlace := ["slices.overlaps[int]", "slices.overlaps[byte]"], unfollowed := true, recurses := true, apart := false, narrowed := true }
def OrderBackUptoSaid : Prop := orderBackUptoRow.holds Tryz.pinned (OpenSpec.upto orderBackSpec)

/-- 'wringerlaw12.OrderRight', WHERE WHAT IT READS IS OF BULK AT MOST 1048576: true; the input reads as it did. -/
def orderRightUptoRow : OpenClaim := { program := "ytfmnnbeegfjnaaagreat", sum := "f316b1521bd2ea0303ba5f91d9b962fecc05a059cf34abb88e230cfecc8478c8", func := "wringer/wringerlaw12.OrderRight", spec := "orderRight", inPlace := ["slices.overlaps[int]", "slices.overlaps[byte]"], unfollowed := true, recurses := true, apart := false, narrowed := true }
def OrderRightUptoSaid : Prop := orderRightUptoRow.holds Tryz.pinned (OpenSpec.upto orderRightSpec)

/-- 'wringerlaw13.SkewSamples', WHERE WHAT IT READS IS OF BULK AT MOST 1048576: true; the input reads as it did. -/
def skewSamplesUptoRow : OpenClaim := { program := "ytfmnnbeegfjnaaagreat", sum := "f316b1521bd2ea0303ba5f91d9b962fecc05a059cf34abb88e230cfecc8478c8", func := "wringer/wringerlaw13.SkewSamples", spec := "skewSamples", unfollowed := true, recurses := true, apart := false, narrowed := true }
def SkewSamplesUptoSaid : Prop := skewSamplesUptoRow.holds Tryz.pinned (OpenSpec.upto skewSamplesSpec)

end Rows
end Go.Proofs.YtfmnnbeegfjnaaaGreat
