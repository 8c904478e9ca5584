/-
  DERIVED. GIVEN WITH THE SEED: THE CARDS: each row of YthmjgaekcghonaaGreatDoorRows.lean that lists a variable, with what it lists TIED to the program's text (the seventh form; the later family's looks); each row that meets fmt, with fmt's text TOLD by the authors' own Lean function (tested against real Go, not proved from fmt's source: count such statements apart). THE CARD IS WHAT COUNTS. Prove the row's statement (the work); the ties are given (YthmjgaekcghonaaGreatDoorTie.lean); close each card by the builder's one call (the guide's Derived/Test/ToyasCard.lean, 'card_holds'). Laid BY PROGRAM, IN A SANDBOX (cutbox-door.mjs). By AI agents, Wed Nov 11 2026. No macro, syntax, notation, axiom, sorry.
-/
import Derived.Test.YthmjgaekcghonaaGreatDoorRows
import GoSem.ClaimSeven
namespace Go.Proofs.YthmjgaekcghonaaGreatDoor
namespace Rows

/-- THE TIED CARD OF 'haulagelaw09.DdlApplies'. -/
def ddlAppliesCard : Claim7 := { stood := { row := ddlAppliesRow, standIns := [], harness := (true, "ee93dac4a9382dbe582cd5452d1c9755a2f78c0ac92dbc05ceb6687aedc986b0"), looks := false }, kinds := [], alts := [], laidByText := true, laidKinds := [.data, .data], laidTests := true, laidLooks := .later }
def DdlAppliesCardSaid : Prop := Claim7.holds Tryz.pinned (.plain (OpenSpec.ofChange ddlAppliesSpec)) ddlAppliesCard

/-- THE TIED CARD OF 'haulagelaw09.DdlAll'. -/
def ddlAllCard : Claim7 := { stood := { row := ddlAllRow, standIns := [], harness := (true, "ee93dac4a9382dbe582cd5452d1c9755a2f78c0ac92dbc05ceb6687aedc986b0"), looks := false }, kinds := [], alts := [], laidByText := true, laidKinds := [.data, .data], laidTests := true, laidLooks := .later }
def DdlAllCardSaid : Prop := Claim7.holds Tryz.pinned (.plain (OpenSpec.ofChange ddlAllSpec)) ddlAllCard

/-- THE SECOND FORM's CARD OF 'haulagelaw09.DdlApplies'. -/
def ddlAppliesUptoCard : Claim7 := { stood := { row := ddlAppliesUptoRow, standIns := [], harness := (true, "ee93dac4a9382dbe582cd5452d1c9755a2f78c0ac92dbc05ceb6687aedc986b0"), looks := false }, kinds := [], alts := [], laidByText := true, laidKinds := [.data, .data], laidTests := true, laidLooks := .later }
def DdlAppliesUptoCardSaid : Prop := Claim7.holds Tryz.pinned (.plain (OpenSpec.upto ddlAppliesSpec)) ddlAppliesUptoCard

/-- THE SECOND FORM's CARD OF 'haulagelaw09.DdlAll'. -/
def ddlAllUptoCard : Claim7 := { stood := { row := ddlAllUptoRow, standIns := [], harness := (true, "ee93dac4a9382dbe582cd5452d1c9755a2f78c0ac92dbc05ceb6687aedc986b0"), looks := false }, kinds := [], alts := [], laidByText := true, laidKinds := [.data, .data], laidTests := true, laidLooks := .later }
def DdlAllUptoCardSaid : Prop := Claim7.holds Tryz.pinned (.plain (OpenSpec.upto ddlAllSpec)) ddlAllUptoCard
end Rows
end Go.Proofs.YthmjgaekcghonaaGreatDoor
