/-
  NARROWER THAN 'FOR EVERY INPUT', by the rows' own cells (each row's printed sentence says how): DdlPlain: laid · DdlKeepsIds: laid · DdlApart: laid.
  DERIVED. THE GIVEN ROWS OF THIS SEAT. 3 by the template 'for every input the law returns true; each argument reads behind the call as it read before'; 0 by the template 'total and deterministic' (their statements: YtlbdbaafmdikcaaGreatDoorTotals.lean).
  GIVEN WITH THE SEED: the statements are not yours to turn. If you find one false, say at which input.
  Laid BY PROGRAM, IN A SANDBOX (cutbox-rows.mjs): the forced cells as the released guide's own fill.sh prints them over the translation 558e571101f8fd08… (all of the seat's roots in one cut). By AI agents, Wed Nov 11 2026. No macro, syntax, notation, axiom, sorry.
-/
import Derived.Test.YtlbdbaafmdikcaaGreatDoorChecked
import GoSem.Claim
import GoSem.ClaimJoined
import GoSem.ClaimMapViews
import Derived.JoinedTies
import Derived.KernelRfl
namespace Go.Proofs.YtlbdbaafmdikcaaGreatDoor
/- THE CELL 'sum', in the pinned program and in every row, IS THE sha256 OF THE DUMP (.gsa) THAT YtlbdbaafmdikcaaGreatDoorProg.lean LOADS. Nothing in Lean hashes anything: it is a label: what it is worth is what the hold of that sum in a sandbox is worth. -/
noncomputable def Tryz.pinned : Pinned := { name := "ytlbdbaafmdikcaagreatdoor", sum := "558e571101f8fd081b19b5ec0e6aa66e003d5232d7636ef9f6e4a6c148b6395c", checked := Tryz.checked }
namespace Rows
def none {H : Type} : Left H := { results := [], args := [] }

/- WHAT THE LISTED PACKAGE-LEVEL VARIABLES READ AS WHEN THE CALL BEGINS. Each datum BY PROGRAM (the guide's laid-datum.mjs) off the statement by which the dump's own 'gosem.cut.vars' lays the variable. In a bare row this is a premise. The card (YtlbdbaafmdikcaaGreatDoorCards.lean) ties it to the program's text. -/
def laid_haulage_utf_least {H : Type} : DataW H := .agg [.lit (.int .i64 0), .lit (.int .i64 128), .lit (.int .i64 2048), .lit (.int .i64 65536)]
def laid_haulage_utf_firstMark {H : Type} : DataW H := .agg [.lit (.int .i64 0), .lit (.int .i64 192), .lit (.int .i64 224), .lit (.int .i64 240)]

/-- 'haulagelaw09.DdlPlain': WHATEVER THE INPUT: true; the input reads as it did. -/
def ddlPlainSpec : ChangeSpec := { name := "ddlPlain", fn := fun _ => fun
  | [d1, d2] => { results := [.lit (.bool true)], args := [d1, d2] }
  | _ => none }
def ddlPlainRow : OpenClaim := { program := "ytlbdbaafmdikcaagreatdoor", sum := "558e571101f8fd081b19b5ec0e6aa66e003d5232d7636ef9f6e4a6c148b6395c", func := "haulage/haulagelaw09.DdlPlain", spec := "ddlPlain", inPlace := ["slices.overlaps[haulage/api.Table]"], unfollowed := true, recurses := true, named := ["haulage/utf.firstMark", "haulage/utf.least"], apart := false, laid := [("haulage/utf.least", laid_haulage_utf_least), ("haulage/utf.firstMark", laid_haulage_utf_firstMark)] }
def DdlPlainSaid : Prop := ddlPlainRow.holds Tryz.pinned (OpenSpec.ofChange ddlPlainSpec)

/-- ITS FALSE NEIGHBOUR: 'it returns false'. Refute it at one input. -/
def ddlPlainWrong : ChangeSpec := { name := "ddlPlain", fn := fun _ => fun
  | [d1, d2] => { results := [.lit (.bool false)], args := [d1, d2] }
  | _ => none }
def DdlPlainWrongFalsely : Prop := ddlPlainRow.holds Tryz.pinned (OpenSpec.ofChange ddlPlainWrong)

/-- 'haulagelaw09.DdlKeepsIds': WHATEVER THE INPUT: true; the input reads as it did. -/
def ddlKeepsIdsSpec : ChangeSpec := { name := "ddlKeepsIds", fn := fun _ => fun
  | [d1, d2] => { results := [.lit (.bool true)], args := [d1, d2] }
  | _ => none }
def ddlKeepsIdsRow : OpenClaim := { program := "ytlbdbaafmdikcaagreatdoor", sum := "558e571101f8fd081b19b5ec0e6aa66e003d5232d7636ef9f6e4a6c148b6395c", func := "haulage/haulagelaw09.DdlKeepsIds", spec := "ddlKeepsIds", inPlace := ["slices.overlaps[haulage/api.Table]"], unfollowed := true, recurses := true, named := ["haulage/utf.firstMark", "haulage/utf.least"], apart := false, laid := [("haulage/utf.least", laid_haulage_utf_least), ("haulage/utf.firstMark", laid_haulage_utf_firstMark)] }
def DdlKeepsIdsSaid : Prop := ddlKeepsIdsRow.holds Tryz.pinned (OpenSpec.ofChange ddlKeepsIdsSpec)

/-- ITS FALSE NEIGHBOUR: 'it returns false'. Refute it at one input. -/
def ddlKeepsIdsWrong : ChangeSpec := { name := "ddlKeepsIds", fn := fun _ => fun
  | [d1, d2] => { results := [.lit (.bool false)], args := [d1, d2] }
  | _ => none }
def DdlKeepsIdsWrongFalsely : Prop := ddlKeepsIdsRow.holds Tryz.pinned (OpenSpec.ofChange ddlKeepsIdsWrong)

/-- 'haulagelaw09.DdlApart': WHATEVER THE INPUT: true; the input reads as it did. -/
def ddlApartSpec : ChangeSpec := { name := "ddlApart", fn := fun _ => fun
  | [d1, d2, d3] => { results := [.lit (.bool true)], args := [d1, d2, d3] }
  | _ => none }
def ddlApartRow : OpenClaim := { program := "ytlbdbaafmdikcaagreatdoor", sum := "558e571101f8fd081b19b5ec0e6aa66e003d5232d7636ef9f6e4a6c148b6395c", func := "haulage/haulagelaw09.DdlApart", spec := "ddlApart", inPlace := ["slices.overlaps[haulage/api.Table]"], unfollowed := true, recurses := true, named := ["haulage/utf.firstMark", "haulage/utf.least"], apart := false, laid := [("haulage/utf.least", laid_haulage_utf_least), ("haulage/utf.firstMark", laid_haulage_utf_firstMark)] }
def DdlApartSaid : Prop := ddlApartRow.holds Tryz.pinned (OpenSpec.ofChange ddlApartSpec)

/-- ITS FALSE NEIGHBOUR: 'it returns false'. Refute it at one input. -/
def ddlApartWrong : ChangeSpec := { name := "ddlApart", fn := fun _ => fun
  | [d1, d2, d3] => { results := [.lit (.bool false)], args := [d1, d2, d3] }
  | _ => none }
def DdlApartWrongFalsely : Prop := ddlApartRow.holds Tryz.pinned (OpenSpec.ofChange ddlApartWrong)

/- THE SECOND FORM. 'bulk': how many values and letters a reading holds, each counted each time it is reached (what is shared counts as often as it is met; a slice's spare places count too). A statement '..UptoSaid' is the law's where the arguments, and the package variables that the reading takes, are together of bulk at most 1048576: NARROWER than '..Said'. Prove '..Said' where nothing that the law and all that it calls make is longer than what came in: it says more and counts as full. Else prove '..UptoSaid'. A law counts once. -/
mutual
def uptoBulk {H : Type} : DataW H → Nat
  | .lit (.string bytes) => bytes.length + 1
  | .lit _ => 1
  | .nil => 1
  | .ptr d => uptoBulk d + 1
  | .slice elems spare => uptoBulkAll elems + uptoBulkAll spare + 1
  | .agg parts => uptoBulkAll parts + 1
  | .iface _ d => uptoBulk d + 1
  | .map entries => uptoBulkEntries entries + 1
  | .held _ => 1
def uptoBulkAll {H : Type} : List (DataW H) → Nat
  | [] => 0
  | d :: r => uptoBulk d + uptoBulkAll r
def uptoBulkEntries {H : Type} : List (Lit × DataW H) → Nat
  | [] => 0
  | x :: r => uptoBulkEntry x + uptoBulkEntries r
def uptoBulkEntry {H : Type} : Lit × DataW H → Nat
  | (.string bytes, d) => bytes.length + uptoBulk d + 1
  | (_, d) => uptoBulk d + 1
 end
def uptoSmall : (H : Type) → List (DataW H) → Bool := fun _ ds => decide (uptoBulkAll ds ≤ 1048576)
def OpenSpec.upto (s : _root_.Go.ChangeSpec) : _root_.Go.OpenSpec := { _root_.Go.OpenSpec.ofChange s with cond := some uptoSmall }

/-- 'haulagelaw09.DdlPlain', WHERE WHAT IT READS IS OF BULK AT MOST 1048576: true; the input reads as it did. -/
def ddlPlainUptoRow : OpenClaim := { program := "ytlbdbaafmdikcaagreatdoor", sum := "558e571101f8fd081b19b5ec0e6aa66e003d5232d7636ef9f6e4a6c148b6395c", func := "haulage/haulagelaw09.DdlPlain", spec := "ddlPlain", inPlace := ["slices.overlaps[haulage/api.Table]"], unfollowed := true, recurses := true, named := ["haulage/utf.firstMark", "haulage/utf.least"], apart := false, laid := [("haulage/utf.least", laid_haulage_utf_least), ("haulage/utf.firstMark", laid_haulage_utf_firstMark)], narrowed := true }
def DdlPlainUptoSaid : Prop := ddlPlainUptoRow.holds Tryz.pinned (OpenSpec.upto ddlPlainSpec)

/-- 'haulagelaw09.DdlKeepsIds', WHERE WHAT IT READS IS OF BULK AT MOST 1048576: true; the input reads as it did. -/
def ddlKeepsIdsUptoRow : OpenClaim := { program := "ytlbdbaafmdikcaagreatdoor", sum := "558e571101f8fd081b19b5ec0e6aa66e003d5232d7636ef9f6e4a6c148b6395c", func := "haulage/haulagelaw09.DdlKeepsIds", spec := "ddlKeepsIds", inPlace := ["slices.overlaps[haulage/api.Table]"], unfollowed := true, recurses := true, named := ["haulage/utf.firstMark", "haulage/utf.least"], apart := false, laid := [("haulage/utf.least", laid_haulage_utf_least), ("haulage/utf.firstMark", laid_haulage_utf_firstMark)], narrowed := true }
def DdlKeepsIdsUptoSaid : Prop := ddlKeepsIdsUptoRow.holds Tryz.pinned (OpenSpec.upto ddlKeepsIdsSpec)

/-- 'haulagelaw09.DdlApart', WHERE WHAT IT READS IS OF BULK AT MOST 1048576: true; the input reads as it did. -/
def ddlApartUptoRow : OpenClaim := { program := "ytlbdbaafmdikcaagreatdoor", sum := "558e571101f8fd081b19b5ec0e6aa66e003d5232d7636ef9f6e4a6c148b6395c", func := "haulage/haulagelaw09.DdlApart", spec := "ddlApart", inPlace := ["slices.overlaps[haulage/api.Table]"], unfollowed := true, recurses := true, named := ["haulage/utf.firstMark", "haulage/utf.least"], apart := false, laid := [("haulage/utf.least", laid_haulage_utf_least), ("haulage/utf.firstMark", laid_haulage_utf_firstMark)], narrowed := true }
def DdlApartUptoSaid : Prop := ddlApartUptoRow.holds Tryz.pinned (OpenSpec.upto ddlApartSpec)

end Rows
end Go.Proofs.YtlbdbaafmdikcaaGreatDoor
