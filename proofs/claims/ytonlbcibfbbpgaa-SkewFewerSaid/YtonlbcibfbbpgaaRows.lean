/-
  No cell of these rows narrows 'for every input' (looked for: loops, veiled, ifaces, maps, wideKeys, modest, calm, conditions, laid).
  DERIVED. THE GIVEN ROWS OF THIS SEAT. 3 by the template 'for every input the law returns true; each argument reads behind the call as it read before'; 0 by the template 'total and deterministic' (their statements: YtonlbcibfbbpgaaTotals.lean).
  GIVEN WITH THE SEED: the statements are not yours to turn. If you find one false, say at which input.
  Laid BY PROGRAM, IN A SANDBOX (cutbox-rows.mjs): the forced cells as the released guide's own fill.sh prints them over the translation 022ff8ed25d17eca… (all of the seat's roots in one cut). By AI agents, Wed Nov 11 2026. No macro, syntax, notation, axiom, sorry.
-/
import Derived.Test.YtonlbcibfbbpgaaChecked
import GoSem.Claim
import GoSem.ClaimJoined
import GoSem.ClaimMapViews
import Derived.JoinedTies
import Derived.KernelRfl
namespace Go.Proofs.Ytonlbcibfbbpgaa
/- THE CELL 'sum', in the pinned program and in every row, IS THE sha256 OF THE DUMP (.gsa) THAT YtonlbcibfbbpgaaProg.lean LOADS. Nothing in Lean hashes anything: it is a label: what it is worth is what the hold of that sum in a sandbox is worth. -/
noncomputable def Try.pinned : Pinned := { name := "ytonlbcibfbbpgaa", sum := "022ff8ed25d17ecaff6c0a43fe2d1f8459d03e9c6ad235f87cc376830abab11d", checked := Try.checked }
namespace Rows
def none {H : Type} : Left H := { results := [], args := [] }

/-- 'wringerlaw13.SkewParts': WHATEVER THE INPUT: true; the input reads as it did. -/
def skewPartsSpec : ChangeSpec := { name := "skewParts", fn := fun _ => fun
  | [d] => { results := [.lit (.bool true)], args := [d] }
  | _ => none }
def skewPartsRow : OpenClaim := { program := "ytonlbcibfbbpgaa", sum := "022ff8ed25d17ecaff6c0a43fe2d1f8459d03e9c6ad235f87cc376830abab11d", func := "wringer/wringerlaw13.SkewParts", spec := "skewParts", unfollowed := true, recurses := true, apart := false }
def SkewPartsSaid : Prop := skewPartsRow.holds Try.pinned (OpenSpec.ofChange skewPartsSpec)

/-- ITS FALSE NEIGHBOUR: 'it returns false'. Refute it at one input. -/
def skewPartsWrong : ChangeSpec := { name := "skewParts", fn := fun _ => fun
  | [d] => { results := [.lit (.bool false)], args := [d] }
  | _ => none }
def SkewPartsWrongFalsely : Prop := skewPartsRow.holds Try.pinned (OpenSpec.ofChange skewPartsWrong)

/-- 'wringerlaw13.SkewEnds': WHATEVER THE INPUT: true; the input reads as it did. -/
def skewEndsSpec : ChangeSpec := { name := "skewEnds", fn := fun _ => fun
  | [d1, d2] => { results := [.lit (.bool true)], args := [d1, d2] }
  | _ => none }
def skewEndsRow : OpenClaim := { program := "ytonlbcibfbbpgaa", sum := "022ff8ed25d17ecaff6c0a43fe2d1f8459d03e9c6ad235f87cc376830abab11d", func := "wringer/wringerlaw13.SkewEnds", spec := "skewEnds", unfollowed := true, recurses := true, apart := false }
def SkewEndsSaid : Prop := skewEndsRow.holds Try.pinned (OpenSpec.ofChange skewEndsSpec)

/-- ITS FALSE NEIGHBOUR: 'it returns false'. Refute it at one input. -/
def skewEndsWrong : ChangeSpec := { name := "skewEnds", fn := fun _ => fun
  | [d1, d2] => { results := [.lit (.bool false)], args := [d1, d2] }
  | _ => none }
def SkewEndsWrongFalsely : Prop := skewEndsRow.holds Try.pinned (OpenSpec.ofChange skewEndsWrong)

/-- 'wringerlaw13.SkewFewer': WHATEVER THE INPUT: true; the input reads as it did. -/
def skewFewerSpec : ChangeSpec := { name := "skewFewer", fn := fun _ => fun
  | [d] => { results := [.lit (.bool true)], args := [d] }
  | _ => none }
def skewFewerRow : OpenClaim := { program := "ytonlbcibfbbpgaa", sum := "022ff8ed25d17ecaff6c0a43fe2d1f8459d03e9c6ad235f87cc376830abab11d", func := "wringer/wringerlaw13.SkewFewer", spec := "skewFewer", unfollowed := true, recurses := true, apart := false }
def SkewFewerSaid : Prop := skewFewerRow.holds Try.pinned (OpenSpec.ofChange skewFewerSpec)

/-- ITS FALSE NEIGHBOUR: 'it returns false'. Refute it at one input. -/
def skewFewerWrong : ChangeSpec := { name := "skewFewer", fn := fun _ => fun
  | [d] => { results := [.lit (.bool false)], args := [d] }
  | _ => none }
def SkewFewerWrongFalsely : Prop := skewFewerRow.holds Try.pinned (OpenSpec.ofChange skewFewerWrong)

/- THE SECOND FORM. 'bulk': how many values and letters a reading holds, each counted each time it is reached (what is shared counts as often as it is met; a slice's spare places count too). A statement '..UptoSaid' is the law's where the arguments, and the package variables that the reading takes, are together of bulk at most 1048576: NARROWER than '..Said'. Prove '..Said' where nothing that the law and all that it calls make is longer than what came in: it says more and counts as full. Else prove '..UptoSaid'. A law counts once. -/
mutual
def uptoBulk {H : Type} : DataW H → Nat
  | .lit (.string bytes) => bytes.length + 1
  | .lit _ => 1
  | .nil => 1
  | .ptr d => uptoBulk d + 1
  | .slice elems spare => uptoBulkAll elems + uptoBulkAll spare + 1
  | .agg parts => uptoBulkAll parts + 1
  | .iface _ d => uptoBulk d + 1
  | .map entries => uptoBulkEntries entries + 1
  | .held _ => 1
def uptoBulkAll {H : Type} : List (DataW H) → Nat
  | [] => 0
  | d :: r => uptoBulk d + uptoBulkAll r
def uptoBulkEntries {H : Type} : List (Lit × DataW H) → Nat
  | [] => 0
  | x :: r => uptoBulkEntry x + uptoBulkEntries r
def uptoBulkEntry {H : Type} : Lit × DataW H → Nat
  | (.string bytes, d) => bytes.length + uptoBulk d + 1
  | (_, d) => uptoBulk d + 1
 end
def uptoSmall : (H : Type) → List (DataW H) → Bool := fun _ ds => decide (uptoBulkAll ds ≤ 1048576)
def OpenSpec.upto (s : _root_.Go.ChangeSpec) : _root_.Go.OpenSpec := { _root_.Go.OpenSpec.ofChange s with cond := some uptoSmall }

/-- 'wringerlaw13.SkewParts', WHERE WHAT IT READS IS OF BULK AT MOST 1048576: true; the input reads as it did. -/
def skewPartsUptoRow : OpenClaim := { program := "ytonlbcibfbbpgaa", sum := "022ff8ed25d17ecaff6c0a43fe2d1f8459d03e9c6ad235f87cc376830abab11d", func := "wringer/wringerlaw13.SkewParts", spec := "skewParts", unfollowed := true, recurses := true, apart := false, narrowed := true }
def SkewPartsUptoSaid : Prop := skewPartsUptoRow.holds Try.pinned (OpenSpec.upto skewPartsSpec)

/-- 'wringerlaw13.SkewEnds', WHERE WHAT IT READS IS OF BULK AT MOST 1048576: true; the input reads as it did. -/
def skewEndsUptoRow : OpenClaim := { program := "ytonlbcibfbbpgaa", sum := "022ff8ed25d17ecaff6c0a43fe2d1f8459d03e9c6ad235f87cc376830abab11d", func := "wringer/wringerlaw13.SkewEnds", spec := "skewEnds", unfollowed := true, recurses := true, apart := false, narrowed := true }
def SkewEndsUptoSaid : Prop := skewEndsUptoRow.holds Try.pinned (OpenSpec.upto skewEndsSpec)

/-- 'wringerlaw13.SkewFewer', WHERE WHAT IT READS IS OF BULK AT MOST 1048576: true; the input reads as it did. -/
def skewFewerUptoRow : OpenClaim := { program := "ytonlbcibfbbpgaa", sum := "022ff8ed25d17ecaff6c0a43fe2d1f8459d03e9c6ad235f87cc376830abab11d", func := "wringer/wringerlaw13.SkewFewer", spec := "skewFewer", unfollowed := true, recurses := true, apart := false, narrowed := true }
def SkewFewerUptoSaid : Prop := skewFewerUptoRow.holds Try.pinned (OpenSpec.upto skewFewerSpec)

end Rows
end Go.Proofs.Ytonlbcibfbbpgaa
