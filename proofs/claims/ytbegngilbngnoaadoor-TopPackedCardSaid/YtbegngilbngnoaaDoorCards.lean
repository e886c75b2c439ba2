/-
  DERIVED. GIVEN WITH THE SEED: THE CARDS: each row of YtbegngilbngnoaaDoorRows.lean that lists a variable, with what it lists TIED to the program's text (the seventh form; the later family's looks); each row that meets fmt, with fmt's text TOLD by the authors' own Lean function (tested against real Go, not proved from fmt's source: count such statements apart). THE CARD IS WHAT COUNTS. Prove the row's statement (the work); the ties are given (YtbegngilbngnoaaDoorTie.lean); close each card by the builder's one call (the guide's Derived/Test/ToyasCard.lean, 'card_holds'). Laid BY PROGRAM, IN A SANDBOX (cutbox-door.mjs). By AI agents, Wed Nov 11 2026. No macro, syntax, notation, axiom, sorry.
-/
import Derived.Test.YtbegngilbngnoaaDoorRows
import GoSem.ClaimSeven
namespace Go.Proofs.YtbegngilbngnoaaDoor
namespace Rows

/-- THE TIED CARD OF 'wringerlaw19.ZerosCodes'. -/
def zerosCodesCard : Claim7 := { stood := { row := zerosCodesRow, standIns := [], harness := (true, "39c80689a3e24547da2715c2e4890abf46236556e4737a591753d6d50bdcffbb"), looks := false }, kinds := [], alts := [], laidByText := true, laidKinds := [.data, .pinned], laidTests := true, laidLooks := .later }
def ZerosCodesCardSaid : Prop := Claim7.holds Tryd.pinned (.plain (OpenSpec.ofChange zerosCodesSpec)) zerosCodesCard

/-- THE TIED CARD OF 'wringerlaw19.ZerosDigits'. -/
def zerosDigitsCard : Claim7 := { stood := { row := zerosDigitsRow, standIns := [], harness := (true, "39c80689a3e24547da2715c2e4890abf46236556e4737a591753d6d50bdcffbb"), looks := false }, kinds := [], alts := [], laidByText := true, laidKinds := [.data, .pinned], laidTests := true, laidLooks := .later }
def ZerosDigitsCardSaid : Prop := Claim7.holds Tryd.pinned (.plain (OpenSpec.ofChange zerosDigitsSpec)) zerosDigitsCard

/-- THE TIED CARD OF 'wringerlaw19.ZerosBack'. -/
def zerosBackCard : Claim7 := { stood := { row := zerosBackRow, standIns := [], harness := (true, "39c80689a3e24547da2715c2e4890abf46236556e4737a591753d6d50bdcffbb"), looks := false }, kinds := [], alts := [], laidByText := true, laidKinds := [.data, .pinned], laidTests := true, laidLooks := .later }
def ZerosBackCardSaid : Prop := Claim7.holds Tryd.pinned (.plain (OpenSpec.ofChange zerosBackSpec)) zerosBackCard

/-- THE TIED CARD OF 'wringerlaw19.ZerosRuns'. -/
def zerosRunsCard : Claim7 := { stood := { row := zerosRunsRow, standIns := [], harness := (true, "39c80689a3e24547da2715c2e4890abf46236556e4737a591753d6d50bdcffbb"), looks := false }, kinds := [], alts := [], laidByText := true, laidKinds := [.data, .pinned], laidTests := true, laidLooks := .later }
def ZerosRunsCardSaid : Prop := Claim7.holds Tryd.pinned (.plain (OpenSpec.ofChange zerosRunsSpec)) zerosRunsCard

/-- THE TIED CARD OF 'wringertop.TopPacked'. -/
def topPackedCard : Claim7 := { stood := { row := topPackedRow, standIns := [], harness := (true, "39c80689a3e24547da2715c2e4890abf46236556e4737a591753d6d50bdcffbb"), looks := false }, kinds := [], alts := [], laidByText := true, laidKinds := [.data, .pinned], laidTests := true, laidLooks := .later }
def TopPackedCardSaid : Prop := Claim7.holds Tryd.pinned (.plain (OpenSpec.ofChange topPackedSpec)) topPackedCard

/-- THE SECOND FORM's CARD OF 'wringerlaw19.ZerosCodes'. -/
def zerosCodesUptoCard : Claim7 := { stood := { row := zerosCodesUptoRow, standIns := [], harness := (true, "39c80689a3e24547da2715c2e4890abf46236556e4737a591753d6d50bdcffbb"), looks := false }, kinds := [], alts := [], laidByText := true, laidKinds := [.data, .pinned], laidTests := true, laidLooks := .later }
def ZerosCodesUptoCardSaid : Prop := Claim7.holds Tryd.pinned (.plain (OpenSpec.upto zerosCodesSpec)) zerosCodesUptoCard

/-- THE SECOND FORM's CARD OF 'wringerlaw19.ZerosDigits'. -/
def zerosDigitsUptoCard : Claim7 := { stood := { row := zerosDigitsUptoRow, standIns := [], harness := (true, "39c80689a3e24547da2715c2e4890abf46236556e4737a591753d6d50bdcffbb"), looks := false }, kinds := [], alts := [], laidByText := true, laidKinds := [.data, .pinned], laidTests := true, laidLooks := .later }
def ZerosDigitsUptoCardSaid : Prop := Claim7.holds Tryd.pinned (.plain (OpenSpec.upto zerosDigitsSpec)) zerosDigitsUptoCard

/-- THE SECOND FORM's CARD OF 'wringerlaw19.ZerosBack'. -/
def zerosBackUptoCard : Claim7 := { stood := { row := zerosBackUptoRow, standIns := [], harness := (true, "39c80689a3e24547da2715c2e4890abf46236556e4737a591753d6d50bdcffbb"), looks := false }, kinds := [], alts := [], laidByText := true, laidKinds := [.data, .pinned], laidTests := true, laidLooks := .later }
def ZerosBackUptoCardSaid : Prop := Claim7.holds Tryd.pinned (.plain (OpenSpec.upto zerosBackSpec)) zerosBackUptoCard

/-- THE SECOND FORM's CARD OF 'wringerlaw19.ZerosRuns'. -/
def zerosRunsUptoCard : Claim7 := { stood := { row := zerosRunsUptoRow, standIns := [], harness := (true, "39c80689a3e24547da2715c2e4890abf46236556e4737a591753d6d50bdcffbb"), looks := false }, kinds := [], alts := [], laidByText := true, laidKinds := [.data, .pinned], laidTests := true, laidLooks := .later }
def ZerosRunsUptoCardSaid : Prop := Claim7.holds Tryd.pinned (.plain (OpenSpec.upto zerosRunsSpec)) zerosRunsUptoCard

/-- THE SECOND FORM's CARD OF 'wringertop.TopPacked'. -/
def topPackedUptoCard : Claim7 := { stood := { row := topPackedUptoRow, standIns := [], harness := (true, "39c80689a3e24547da2715c2e4890abf46236556e4737a591753d6d50bdcffbb"), looks := false }, kinds := [], alts := [], laidByText := true, laidKinds := [.data, .pinned], laidTests := true, laidLooks := .later }
def TopPackedUptoCardSaid : Prop := Claim7.holds Tryd.pinned (.plain (OpenSpec.upto topPackedSpec)) topPackedUptoCard
end Rows
end Go.Proofs.YtbegngilbngnoaaDoor
