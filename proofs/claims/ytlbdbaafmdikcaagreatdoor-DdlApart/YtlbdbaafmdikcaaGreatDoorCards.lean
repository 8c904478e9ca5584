/-
  DERIVED. GIVEN WITH THE SEED: THE CARDS: each row of YtlbdbaafmdikcaaGreatDoorRows.lean that lists a variable, with what it lists TIED to the program's text (the seventh form; the later family's looks); each row that meets fmt, with fmt's text TOLD by the authors' own Lean function (tested against real Go, not proved from fmt's source: count such statements apart). THE CARD IS WHAT COUNTS. Prove the row's statement (the work); the ties are given (YtlbdbaafmdikcaaGreatDoorTie.lean); close each card by the builder's one call (the guide's Derived/Test/ToyasCard.lean, 'card_holds'). Laid BY PROGRAM, IN A SANDBOX (cutbox-door.mjs). By AI agents, Wed Nov 11 2026. No macro, syntax, notation, axiom, sorry.
-/
import Derived.Test.YtlbdbaafmdikcaaGreatDoorRows
import GoSem.ClaimSeven
namespace Go.Proofs.YtlbdbaafmdikcaaGreatDoor
namespace Rows

/-- THE TIED CARD OF 'haulagelaw09.DdlPlain'. -/
def ddlPlainCard : Claim7 := { stood := { row := ddlPlainRow, standIns := [], harness := (true, "3ed9fbc85af2108e49d0eebe6137ce6d3b01cba58b31598a00b40f8eb211d8b9"), looks := false }, kinds := [], alts := [], laidByText := true, laidKinds := [.data, .data], laidTests := true, laidLooks := .later }
def DdlPlainCardSaid : Prop := Claim7.holds Tryz.pinned (.plain (OpenSpec.ofChange ddlPlainSpec)) ddlPlainCard

/-- THE TIED CARD OF 'haulagelaw09.DdlKeepsIds'. -/
def ddlKeepsIdsCard : Claim7 := { stood := { row := ddlKeepsIdsRow, standIns := [], harness := (true, "3ed9fbc85af2108e49d0eebe6137ce6d3b01cba58b31598a00b40f8eb211d8b9"), looks := false }, kinds := [], alts := [], laidByText := true, laidKinds := [.data, .data], laidTests := true, laidLooks := .later }
def DdlKeepsIdsCardSaid : Prop := Claim7.holds Tryz.pinned (.plain (OpenSpec.ofChange ddlKeepsIdsSpec)) ddlKeepsIdsCard

/-- THE TIED CARD OF 'haulagelaw09.DdlApart'. -/
def ddlApartCard : Claim7 := { stood := { row := ddlApartRow, standIns := [], harness := (true, "3ed9fbc85af2108e49d0eebe6137ce6d3b01cba58b31598a00b40f8eb211d8b9"), looks := false }, kinds := [], alts := [], laidByText := true, laidKinds := [.data, .data], laidTests := true, laidLooks := .later }
def DdlApartCardSaid : Prop := Claim7.holds Tryz.pinned (.plain (OpenSpec.ofChange ddlApartSpec)) ddlApartCard

/-- THE SECOND FORM's CARD OF 'haulagelaw09.DdlPlain'. -/
def ddlPlainUptoCard : Claim7 := { stood := { row := ddlPlainUptoRow, standIns := [], harness := (true, "3ed9fbc85af2108e49d0eebe6137ce6d3b01cba58b31598a00b40f8eb211d8b9"), looks := false }, kinds := [], alts := [], laidByText := true, laidKinds := [.data, .data], laidTests := true, laidLooks := .later }
def DdlPlainUptoCardSaid : Prop := Claim7.holds Tryz.pinned (.plain (OpenSpec.upto ddlPlainSpec)) ddlPlainUptoCard

/-- THE SECOND FORM's CARD OF 'haulagelaw09.DdlKeepsIds'. -/
def ddlKeepsIdsUptoCard : Claim7 := { stood := { row := ddlKeepsIdsUptoRow, standIns := [], harness := (true, "3ed9fbc85af2108e49d0eebe6137ce6d3b01cba58b31598a00b40f8eb211d8b9"), looks := false }, kinds := [], alts := [], laidByText := true, laidKinds := [.data, .data], laidTests := true, laidLooks := .later }
def DdlKeepsIdsUptoCardSaid : Prop := Claim7.holds Tryz.pinned (.plain (OpenSpec.upto ddlKeepsIdsSpec)) ddlKeepsIdsUptoCard

/-- THE SECOND FORM's CARD OF 'haulagelaw09.DdlApart'. -/
def ddlApartUptoCard : Claim7 := { stood := { row := ddlApartUptoRow, standIns := [], harness := (true, "3ed9fbc85af2108e49d0eebe6137ce6d3b01cba58b31598a00b40f8eb211d8b9"), looks := false }, kinds := [], alts := [], laidByText := true, laidKinds := [.data, .data], laidTests := true, laidLooks := .later }
def DdlApartUptoCardSaid : Prop := Claim7.holds Tryz.pinned (.plain (OpenSpec.upto ddlApartSpec)) ddlApartUptoCard
end Rows
end Go.Proofs.YtlbdbaafmdikcaaGreatDoor
