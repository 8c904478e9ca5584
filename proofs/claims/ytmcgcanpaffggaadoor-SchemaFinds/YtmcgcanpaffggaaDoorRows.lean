/-
  NARROWER THAN 'FOR EVERY INPUT', by the rows' own cells (each row's printed sentence says how): SchemaRight: laid · SchemaFinds: laid · SchemaRows: laid · SchemaFills: laid · SchemaSets: laid.
  DERIVED. THE GIVEN ROWS OF THIS SEAT. 5 by the template 'for every input the law returns true; each argument reads behind the call as it read before'; 0 by the template 'total and deterministic' (their statements: YtmcgcanpaffggaaDoorTotals.lean).
  GIVEN WITH THE SEED: the statements are not yours to turn. If you find one false, say at which input.
  Laid BY PROGRAM, IN A SANDBOX (cutbox-rows.mjs): the forced cells as the released guide's own fill.sh prints them over the translation cd851178a360af50… (all of the seat's roots in one cut). By AI agents, Wed Nov 11 2026. No macro, syntax, notation, axiom, sorry.
-/
import Derived.Test.YtmcgcanpaffggaaDoorChecked
import GoSem.Claim
import GoSem.ClaimJoined
import GoSem.ClaimMapViews
import Derived.JoinedTies
import Derived.KernelRfl
namespace Go.Proofs.YtmcgcanpaffggaaDoor
/- THE CELL 'sum', in the pinned program and in every row, IS THE sha256 OF THE DUMP (.gsa) THAT YtmcgcanpaffggaaDoorProg.lean LOADS. Nothing in Lean hashes anything: it is a label: what it is worth is what the hold of that sum in a sandbox is worth. -/
noncomputable def Tryd.pinned : Pinned := { name := "ytmcgcanpaffggaadoor", sum := "cd851178a360af50b7d59345d11c06c0393e5ae287e86b45fe45476ad998975b", checked := Tryd.checked }
namespace Rows
def none {H : Type} : Left H := { results := [], args := [] }

/- WHAT THE LISTED PACKAGE-LEVEL VARIABLES READ AS WHEN THE CALL BEGINS. Each datum BY PROGRAM (the guide's laid-datum.mjs) off the statement by which the dump's own 'gosem.cut.vars' lays the variable. In a bare row this is a premise. The card (YtmcgcanpaffggaaDoorCards.lean) ties it to the program's text. -/
def laid_haulage_utf_least {H : Type} : DataW H := .agg [.lit (.int .i64 0), .lit (.int .i64 128), .lit (.int .i64 2048), .lit (.int .i64 65536)]
def laid_haulage_utf_firstMark {H : Type} : DataW H := .agg [.lit (.int .i64 0), .lit (.int .i64 192), .lit (.int .i64 224), .lit (.int .i64 240)]

/-- 'haulagelaw08.SchemaRight': WHATEVER THE INPUT: true; the input reads as it did. -/
def schemaRightSpec : ChangeSpec := { name := "schemaRight", fn := fun _ => fun
  | [d] => { results := [.lit (.bool true)], args := [d] }
  | _ => none }
def schemaRightRow : OpenClaim := { program := "ytmcgcanpaffggaadoor", sum := "cd851178a360af50b7d59345d11c06c0393e5ae287e86b45fe45476ad998975b", func := "haulage/haulagelaw08.SchemaRight", spec := "schemaRight", unfollowed := true, recurses := true, named := ["haulage/utf.firstMark", "haulage/utf.least"], apart := false, laid := [("haulage/utf.least", laid_haulage_utf_least), ("haulage/utf.firstMark", laid_haulage_utf_firstMark)] }
def SchemaRightSaid : Prop := schemaRightRow.holds Tryd.pinned (OpenSpec.ofChange schemaRightSpec)

/-- ITS FALSE NEIGHBOUR: 'it returns false'. Refute it at one input. -/
def schemaRightWrong : ChangeSpec := { name := "schemaRight", fn := fun _ => fun
  | [d] => { results := [.lit (.bool false)], args := [d] }
  | _ => none }
def SchemaRightWrongFalsely : Prop := schemaRightRow.holds Tryd.pinned (OpenSpec.ofChange schemaRightWrong)

/-- 'haulagelaw08.SchemaFinds': WHATEVER THE INPUT: true; the input reads as it did. -/
def schemaFindsSpec : ChangeSpec := { name := "schemaFinds", fn := fun _ => fun
  | [d1, d2, d3, d4] => { results := [.lit (.bool true)], args := [d1, d2, d3, d4] }
  | _ => none }
def schemaFindsRow : OpenClaim := { program := "ytmcgcanpaffggaadoor", sum := "cd851178a360af50b7d59345d11c06c0393e5ae287e86b45fe45476ad998975b", func := "haulage/haulagelaw08.SchemaFinds", spec := "schemaFinds", unfollowed := true, recurses := true, named := ["haulage/utf.firstMark", "haulage/utf.least"], apart := false, laid := [("haulage/utf.least", laid_haulage_utf_least), ("haulage/utf.firstMark", laid_haulage_utf_firstMark)] }
def SchemaFindsSaid : Prop := schemaFindsRow.holds Tryd.pinned (OpenSpec.ofChange schemaFindsSpec)

/-- ITS FALSE NEIGHBOUR: 'it returns false'. Refute it at one input. -/
def schemaFindsWrong : ChangeSpec := { name := "schemaFinds", fn := fun _ => fun
  | [d1, d2, d3, d4] => { results := [.lit (.bool false)], args := [d1, d2, d3, d4] }
  | _ => none }
def SchemaFindsWrongFalsely : Prop := schemaFindsRow.holds Tryd.pinned (OpenSpec.ofChange schemaFindsWrong)

/-- 'haulagelaw08.SchemaRows': WHATEVER THE INPUT: true; the input reads as it did. -/
def schemaRowsSpec : ChangeSpec := { name := "schemaRows", fn := fun _ => fun
  | [d1, d2] => { results := [.lit (.bool true)], args := [d1, d2] }
  | _ => none }
def schemaRowsRow : OpenClaim := { program := "ytmcgcanpaffggaadoor", sum := "cd851178a360af50b7d59345d11c06c0393e5ae287e86b45fe45476ad998975b", func := "haulage/haulagelaw08.SchemaRows", spec := "schemaRows", unfollowed := true, recurses := true, named := ["haulage/utf.firstMark", "haulage/utf.least"], apart := false, laid := [("haulage/utf.least", laid_haulage_utf_least), ("haulage/utf.firstMark", laid_haulage_utf_firstMark)] }
def SchemaRowsSaid : Prop := schemaRowsRow.holds Tryd.pinned (OpenSpec.ofChange schemaRowsSpec)

/-- ITS FALSE NEIGHBOUR: 'it returns false'. Refute it at one input. -/
def schemaRowsWrong : ChangeSpec := { name := "schemaRows", fn := fun _ => fun
  | [d1, d2] => { results := [.lit (.bool false)], args := [d1, d2] }
  | _ => none }
def SchemaRowsWrongFalsely : Prop := schemaRowsRow.holds Tryd.pinned (OpenSpec.ofChange schemaRowsWrong)

/-- 'haulagelaw08.SchemaFills': WHATEVER THE INPUT: true; the input reads as it did. -/
def schemaFillsSpec : ChangeSpec := { name := "schemaFills", fn := fun _ => fun
  | [d1, d2] => { results := [.lit (.bool true)], args := [d1, d2] }
  | _ => none }
def schemaFillsRow : OpenClaim := { program := "ytmcgcanpaffggaadoor", sum := "cd851178a360af50b7d59345d11c06c0393e5ae287e86b45fe45476ad998975b", func := "haulage/haulagelaw08.SchemaFills", spec := "schemaFills", unfollowed := true, recurses := true, named := ["haulage/utf.firstMark", "haulage/utf.least"], apart := false, laid := [("haulage/utf.least", laid_haulage_utf_least), ("haulage/utf.firstMark", laid_haulage_utf_firstMark)] }
def SchemaFillsSaid : Prop := schemaFillsRow.holds Tryd.pinned (OpenSpec.ofChange schemaFillsSpec)

/-- ITS FALSE NEIGHBOUR: 'it returns false'. Refute it at one input. -/
def schemaFillsWrong : ChangeSpec := { name := "schemaFills", fn := fun _ => fun
  | [d1, d2] => { results := [.lit (.bool false)], args := [d1, d2] }
  | _ => none }
def SchemaFillsWrongFalsely : Prop := schemaFillsRow.holds Tryd.pinned (OpenSpec.ofChange schemaFillsWrong)

/-- 'haulagelaw08.SchemaSets': WHATEVER THE INPUT: true; the input reads as it did. -/
def schemaSetsSpec : ChangeSpec := { name := "schemaSets", fn := fun _ => fun
  | [d1, d2, d3] => { results := [.lit (.bool true)], args := [d1, d2, d3] }
  | _ => none }
def schemaSetsRow : OpenClaim := { program := "ytmcgcanpaffggaadoor", sum := "cd851178a360af50b7d59345d11c06c0393e5ae287e86b45fe45476ad998975b", func := "haulage/haulagelaw08.SchemaSets", spec := "schemaSets", unfollowed := true, recurses := true, named := ["haulage/utf.firstMark", "haulage/utf.least"], apart := false, laid := [("haulage/utf.least", laid_haulage_utf_least), ("haulage/utf.firstMark", laid_haulage_utf_firstMark)] }
def SchemaSetsSaid : Prop := schemaSetsRow.holds Tryd.pinned (OpenSpec.ofChange schemaSetsSpec)

/-- ITS FALSE NEIGHBOUR: 'it returns false'. Refute it at one input. -/
def schemaSetsWrong : ChangeSpec := { name := "schemaSets", fn := fun _ => fun
  | [d1, d2, d3] => { results := [.lit (.bool false)], args := [d1, d2, d3] }
  | _ => none }
def SchemaSetsWrongFalsely : Prop := schemaSetsRow.holds Tryd.pinned (OpenSpec.ofChange schemaSetsWrong)

/- THE SECOND FORM. 'bulk': how many values and letters a reading holds, each counted each time it is reached (what is shared counts as often as it is met; a slice's spare places count too). A statement '..UptoSaid' is the law's where the arguments, and the package variables that the reading takes, are together of bulk at most 1048576: NARROWER than '..Said'. Prove '..Said' where nothing that the law and all that it calls make is longer than what came in: it says more and counts as full. Else prove '..UptoSaid'. A law counts once. -/
mutual
def uptoBulk {H : Type} : DataW H → Nat
  | .lit (.string bytes) => bytes.length + 1
  | .lit _ => 1
  | .nil => 1
  | .ptr d => uptoBulk d + 1
  | .slice elems spare => uptoBulkAll elems + uptoBulkAll spare + 1
  | .agg parts => uptoBulkAll parts + 1
  | .iface _ d => uptoBulk d + 1
  | .map entries => uptoBulkEntries entries + 1
  | .held _ => 1
def uptoBulkAll {H : Type} : List (DataW H) → Nat
  | [] => 0
  | d :: r => uptoBulk d + uptoBulkAll r
def uptoBulkEntries {H : Type} : List (Lit × DataW H) → Nat
  | [] => 0
  | x :: r => uptoBulkEntry x + uptoBulkEntries r
def uptoBulkEntry {H : Type} : Lit × DataW H → Nat
  | (.string bytes, d) => bytes.length + uptoBulk d + 1
  | (_, d) => uptoBulk d + 1
 end
def uptoSmall : (H : Type) → List (DataW H) → Bool := fun _ ds => decide (uptoBulkAll ds ≤ 1048576)
def OpenSpec.upto (s : _root_.Go.ChangeSpec) : _root_.Go.OpenSpec := { _root_.Go.OpenSpec.ofChange s with cond := some uptoSmall }

/-- 'haulagelaw08.SchemaRight', WHERE WHAT IT READS IS OF BULK AT MOST 1048576: true; the input reads as it did. -/
def schemaRightUptoRow : OpenClaim := { program := "ytmcgcanpaffggaadoor", sum := "cd851178a360af50b7d59345d11c06c0393e5ae287e86b45fe45476ad998975b", func := "haulage/haulagelaw08.SchemaRight", spec := "schemaRight", unfollowed := true, recurses := true, named := ["haulage/utf.firstMark", "haulage/utf.least"], apart := false, laid := [("haulage/utf.least", laid_haulage_utf_least), ("haulage/utf.firstMark", laid_haulage_utf_firstMark)], narrowed := true }
def SchemaRightUptoSaid : Prop := schemaRightUptoRow.holds Tryd.pinned (OpenSpec.upto schemaRightSpec)

/-- 'haulagelaw08.SchemaFinds', WHERE WHAT IT READS IS OF BULK AT MOST 1048576: true; the input reads as it did. -/
def schemaFindsUptoRow : OpenClaim := { program := "ytmcgcanpaffggaadoor", sum := "cd851178a360af50b7d59345d11c06c0393e5ae287e86b45fe45476ad998975b", func := "haulage/haulagelaw08.SchemaFinds", spec := "schemaFinds", unfollowed := true, recurses := true, named := ["haulage/utf.firstMark", "haulage/utf.least"], apart := false, laid := [("haulage/utf.least", laid_haulage_utf_least), ("haulage/utf.firstMark", laid_haulage_utf_firstMark)], narrowed := true }
def SchemaFindsUptoSaid : Prop := schemaFindsUptoRow.holds Tryd.pinned (OpenSpec.upto schemaFindsSpec)

/-- 'haulagelaw08.SchemaRows', WHERE WHAT IT READS IS OF BULK AT MOST 1048576: true; the input reads as it did. -/
def schemaRowsUptoRow : OpenClaim := { program := "ytmcgcanpaffggaadoor", sum := "cd851178a360af50b7d59345d11c06c0393e5ae287e86b45fe45476ad998975b", func := "haulage/haulagelaw08.SchemaRows", spec := "schemaRows", unfollowed := true, recurses := true, named := ["haulage/utf.firstMark", "haulage/utf.least"], apart := false, laid := [("haulage/utf.least", laid_haulage_utf_least), ("haulage/utf.firstMark", laid_haulage_utf_firstMark)], narrowed := true }
def SchemaRowsUptoSaid : Prop := schemaRowsUptoRow.holds Tryd.pinned (OpenSpec.upto schemaRowsSpec)

/-- 'haulagelaw08.SchemaFills', WHERE WHAT IT READS IS OF BULK AT MOST 1048576: true; the input reads as it did. -/
def schemaFillsUptoRow : OpenClaim := { program := "ytmcgcanpaffggaadoor", sum := "cd851178a360af50b7d59345d11c06c0393e5ae287e86b45fe45476ad998975b", func := "haulage/haulagelaw08.SchemaFills", spec := "schemaFills", unfollowed := true, recurses := true, named := ["haulage/utf.firstMark", "haulage/utf.least"], apart := false, laid := [("haulage/utf.least", laid_haulage_utf_least), ("haulage/utf.firstMark", laid_haulage_utf_firstMark)], narrowed := true }
def SchemaFillsUptoSaid : Prop := schemaFillsUptoRow.holds Tryd.pinned (OpenSpec.upto schemaFillsSpec)

/-- 'haulagelaw08.SchemaSets', WHERE WHAT IT READS IS OF BULK AT MOST 1048576: true; the input reads as it did. -/
def schemaSetsUptoRow : OpenClaim := { program := "ytmcgcanpaffggaadoor", sum := "cd851178a360af50b7d59345d11c06c0393e5ae287e86b45fe45476ad998975b", func := "haulage/haulagelaw08.SchemaSets", spec := "schemaSets", unfollowed := true, recurses := true, named := ["haulage/utf.firstMark", "haulage/utf.least"], apart := false, laid := [("haulage/utf.least", laid_haulage_utf_least), ("haulage/utf.firstMark", laid_haulage_utf_firstMark)], narrowed := true }
def SchemaSetsUptoSaid : Prop := schemaSetsUptoRow.holds Tryd.pinned (OpenSpec.upto schemaSetsSpec)

end Rows
end Go.Proofs.YtmcgcanpaffggaaDoor
