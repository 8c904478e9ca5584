/-
  NARROWER THAN 'FOR EVERY INPUT', by the rows' own cells (each row's printed sentence says how): DdlApplies: laid · DdlAll: laid.
  DERIVED. THE GIVEN ROWS OF THIS SEAT. 2 by the template 'for every input the law returns true; each argument reads behind the call as it read before'; 0 by the template 'total and deterministic' (their statements: YthmjgaekcghonaaGreatDoorTotals.lean).
  GIVEN WITH THE SEED: the statements are not yours to turn. If you find one false, say at which input.
  Laid BY PROGRAM, IN A SANDBOX (cutbox-rows.mjs): the forced cells as the released guide's own fill.sh prints them over the translation 270fb7ba6c42d570… (all of the seat's roots in one cut). By AI agents, Wed Nov 11 2026. No macro, syntax, notation, axiom, sorry.
-/
import Derived.Test.YthmjgaekcghonaaGreatDoorChecked
import GoSem.Claim
import GoSem.ClaimJoined
import GoSem.ClaimMapViews
import Derived.JoinedTies
import Derived.KernelRfl
namespace Go.Proofs.YthmjgaekcghonaaGreatDoor
/- THE CELL 'sum', in the pinned program and in every row, IS THE sha256 OF THE DUMP (.gsa) THAT YthmjgaekcghonaaGreatDoorProg.lean LOADS. Nothing in Lean hashes anything: it is a label: what it is worth is what the hold of that sum in a sandbox is worth. -/
noncomputable def Tryz.pinned : Pinned := { name := "ythmjgaekcghonaagreatdoor", sum := "270fb7ba6c42d57058de204c7d583ebfe0810ee9e7e28cc724b59dee487a4f0c", checked := Tryz.checked }
namespace Rows
def none {H : Type} : Left H := { results := [], args := [] }

/- WHAT THE LISTED PACKAGE-LEVEL VARIABLES READ AS WHEN THE CALL BEGINS. Each datum BY PROGRAM (the guide's laid-datum.mjs) off the statement by which the dump's own 'gosem.cut.vars' lays the variable. In a bare row this is a premise. The card (YthmjgaekcghonaaGreatDoorCards.lean) ties it to the program's text. -/
def laid_haulage_utf_least {H : Type} : DataW H := .agg [.lit (.int .i64 0), .lit (.int .i64 128), .lit (.int .i64 2048), .lit (.int .i64 65536)]
def laid_haulage_utf_firstMark {H : Type} : DataW H := .agg [.lit (.int .i64 0), .lit (.int .i64 192), .lit (.int .i64 224), .lit (.int .i64 240)]

/-- 'haulagelaw09.DdlApplies': WHATEVER THE INPUT: true; the input reads as it did. -/
def ddlAppliesSpec : ChangeSpec := { name := "ddlApplies", fn := fun _ => fun
  | [d1, d2, d3] => { results := [.lit (.bool true)], args := [d1, d2, d3] }
  | _ => none }
def ddlAppliesRow : OpenClaim := { program := "ythmjgaekcghonaagreatdoor", sum := "270fb7ba6c42d57058de204c7d583ebfe0810ee9e7e28cc724b59dee487a4f0c", func := "haulage/haulagelaw09.DdlApplies", spec := "ddlApplies", inPlace := ["slices.overlaps[haulage/api.Table]"], unfollowed := true, recurses := true, named := ["haulage/utf.firstMark", "haulage/utf.least"], apart := false, laid := [("haulage/utf.least", laid_haulage_utf_least), ("haulage/utf.firstMark", laid_haulage_utf_firstMark)] }
def DdlAppliesSaid : Prop := ddlAppliesRow.holds Tryz.pinned (OpenSpec.ofChange ddlAppliesSpec)

/-- ITS FALSE NEIGHBOUR: 'it returns false'. Refute it at one input. -/
def ddlAppliesWrong : ChangeSpec := { name := "ddlApplies", fn := fun _ => fun
  | [d1, d2, d3] => { results := [.lit (.bool false)], args := [d1, d2, d3] }
  | _ => none }
def DdlAppliesWrongFalsely : Prop := ddlAppliesRow.holds Tryz.pinned (OpenSpec.ofChange ddlAppliesWrong)

/-- 'haulagelaw09.DdlAll': WHATEVER THE INPUT: true; the input reads as it did. -/
def ddlAllSpec : ChangeSpec := { name := "ddlAll", fn := fun _ => fun
  | [d1, d2, d3] => { results := [.lit (.bool true)], args := [d1, d2, d3] }
  | _ => none }
def ddlAllRow : OpenClaim := { program := "ythmjgaekcghonaagreatdoor", sum := "270fb7ba6c42d57058de204c7d583ebfe0810ee9e7e28cc724b59dee487a4f0c", func := "haulage/haulagelaw09.DdlAll", spec := "ddlAll", inPlace := ["slices.overlaps[haulage/api.Table]"], unfollowed := true, recurses := true, named := ["haulage/utf.firstMark", "haulage/utf.least"], apart := false, laid := [("haulage/utf.least", laid_haulage_utf_least), ("haulage/utf.firstMark", laid_haulage_utf_firstMark)] }
def DdlAllSaid : Prop := ddlAllRow.holds Tryz.pinned (OpenSpec.ofChange ddlAllSpec)

/-- ITS FALSE NEIGHBOUR: 'it returns false'. Refute it at one input. -/
def ddlAllWrong : ChangeSpec := { name := "ddlAll", fn := fun _ => fun
  | [d1, d2, d3] => { results := [.lit (.bool false)], args := [d1, d2, d3] }
  | _ => none }
def DdlAllWrongFalsely : Prop := ddlAllRow.holds Tryz.pinned (OpenSpec.ofChange ddlAllWrong)

/- THE SECOND FORM. 'bulk': how many values and letters a reading holds, each counted each time it is reached (what is shared counts as often as it is met; a slice's spare places count too). A statement '..UptoSaid' is the law's where the arguments, and the package variables that the reading takes, are together of bulk at most 1048576: NARROWER than '..Said'. Prove '..Said' where nothing that the law and all that it calls make is longer than what came in: it says more and counts as full. Else prove '..UptoSaid'. A law counts once. -/
mutual
def uptoBulk {H : Type} : DataW H → Nat
  | .lit (.string bytes) => bytes.length + 1
  | .lit _ => 1
  | .nil => 1
  | .ptr d => uptoBulk d + 1
  | .slice elems spare => uptoBulkAll elems + uptoBulkAll spare + 1
  | .agg parts => uptoBulkAll parts + 1
  | .iface _ d => uptoBulk d + 1
  | .map entries => uptoBulkEntries entries + 1
  | .held _ => 1
def uptoBulkAll {H : Type} : List (DataW H) → Nat
  | [] => 0
  | d :: r => uptoBulk d + uptoBulkAll r
def uptoBulkEntries {H : Type} : List (Lit × DataW H) → Nat
  | [] => 0
  | x :: r => uptoBulkEntry x + uptoBulkEntries r
def uptoBulkEntry {H : Type} : Lit × DataW H → Nat
  | (.string bytes, d) => bytes.length + uptoBulk d + 1
  | (_, d) => uptoBulk d + 1
 end
def uptoSmall : (H : Type) → List (DataW H) → Bool := fun _ ds => decide (uptoBulkAll ds ≤ 1048576)
def OpenSpec.upto (s : _root_.Go.ChangeSpec) : _root_.Go.OpenSpec := { _root_.Go.OpenSpec.ofChange s with cond := some uptoSmall }

/-- 'haulagelaw09.DdlApplies', WHERE WHAT IT READS IS OF BULK AT MOST 1048576: true; the input reads as it did. -/
def ddlAppliesUptoRow : OpenClaim := { program := "ythmjgaekcghonaagreatdoor", sum := "270fb7ba6c42d57058de204c7d583ebfe0810ee9e7e28cc724b59dee487a4f0c", func := "haulage/haulagelaw09.DdlApplies", spec := "ddlApplies", inPlace := ["slices.overlaps[haulage/api.Table]"], unfollowed := true, recurses := true, named := ["haulage/utf.firstMark", "haulage/utf.least"], apart := false, laid := [("haulage/utf.least", laid_haulage_utf_least), ("haulage/utf.firstMark", laid_haulage_utf_firstMark)], narrowed := true }
def DdlAppliesUptoSaid : Prop := ddlAppliesUptoRow.holds Tryz.pinned (OpenSpec.upto ddlAppliesSpec)

/-- 'haulagelaw09.DdlAll', WHERE WHAT IT READS IS OF BULK AT MOST 1048576: true; the input reads as it did. -/
def ddlAllUptoRow : OpenClaim := { program := "ythmjgaekcghonaagreatdoor", sum := "270fb7ba6c42d57058de204c7d583ebfe0810ee9e7e28cc724b59dee487a4f0c", func := "haulage/haulagelaw09.DdlAll", spec := "ddlAll", inPlace := ["slices.overlaps[haulage/api.Table]"], unfollowed := true, recurses := true, named := ["haulage/utf.firstMark", "haulage/utf.least"], apart := false, laid := [("haulage/utf.least", laid_haulage_utf_least), ("haulage/utf.firstMark", laid_haulage_utf_firstMark)], narrowed := true }
def DdlAllUptoSaid : Prop := ddlAllUptoRow.holds Tryz.pinned (OpenSpec.upto ddlAllSpec)

end Rows
end Go.Proofs.YthmjgaekcghonaaGreatDoor
