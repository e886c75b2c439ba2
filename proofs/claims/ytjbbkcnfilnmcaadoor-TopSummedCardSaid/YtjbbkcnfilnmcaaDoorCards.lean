/-
  DERIVED. GIVEN WITH THE SEED: THE CARDS: each row of YtjbbkcnfilnmcaaDoorRows.lean that lists a variable, with what it lists TIED to the program's text (the seventh form; the later family's looks); each row that meets fmt, with fmt's text TOLD by the authors' own Lean function (tested against real Go, not proved from fmt's source: count such statements apart). THE CARD IS WHAT COUNTS. Prove the row's statement (the work); the ties are given (YtjbbkcnfilnmcaaDoorTie.lean); close each card by the builder's one call (the guide's Derived/Test/ToyasCard.lean, 'card_holds'). Laid BY PROGRAM, IN A SANDBOX (cutbox-door.mjs). By AI agents, Wed Nov 11 2026. No macro, syntax, notation, axiom, sorry.
-/
import Derived.Test.YtjbbkcnfilnmcaaDoorRows
import GoSem.ClaimSeven
namespace Go.Proofs.YtjbbkcnfilnmcaaDoor
namespace Rows

/-- THE TIED CARD OF 'wringertop.TopSummed'. -/
def topSummedCard : Claim7 := { stood := { row := topSummedRow, standIns := [], harness := (true, "5b7c5bbb2bbd3feb52c6cd87400da1e12a1a68719cc0f7f2c7fde961a0785ef6"), looks := false }, kinds := [], alts := [], laidByText := true, laidKinds := [.data], laidTests := true, laidLooks := .later }
def TopSummedCardSaid : Prop := Claim7.holds Tryd.pinned (.plain (OpenSpec.ofChange topSummedSpec)) topSummedCard

/-- THE SECOND FORM's CARD OF 'wringertop.TopSummed'. -/
def topSummedUptoCard : Claim7 := { stood := { row := topSummedUptoRow, standIns := [], harness := (true, "5b7c5bbb2bbd3feb52c6cd87400da1e12a1a68719cc0f7f2c7fde961a0785ef6"), looks := false }, kinds := [], alts := [], laidByText := true, laidKinds := [.data], laidTests := true, laidLooks := .later }
def TopSummedUptoCardSaid : Prop := Claim7.holds Tryd.pinned (.plain (OpenSpec.upto topSummedSpec)) topSummedUptoCard
end Rows
end Go.Proofs.YtjbbkcnfilnmcaaDoor
