/-
  NARROWER THAN 'FOR EVERY INPUT', by the rows' own cells (each row's printed sentence says how): DdltextPrints: laid · DdltextParses: laid · DdltextBack: laid · DdltextApart: laid.
  DERIVED. THE GIVEN ROWS OF THIS SEAT. 4 by the template 'for every input the law returns true; each argument reads behind the call as it read before'; 0 by the template 'total and deterministic' (their statements: YtebldfnocpcddaaGreatDoorTotals.lean).
  GIVEN WITH THE SEED: the statements are not yours to turn. If you find one false, say at which input.
  Laid BY PROGRAM, IN A SANDBOX (cutbox-rows.mjs): the forced cells as the released guide's own fill.sh prints them over the translation fc0c2f0da0f2b942… (all of the seat's roots in one cut). By AI agents, Wed Nov 11 2026. No macro, syntax, notation, axiom, sorry.
-/
import Derived.Test.YtebldfnocpcddaaGreatDoorChecked
import GoSem.PinnedTables
import GoSem.Claim
import GoSem.ClaimJoined
import GoSem.ClaimMapViews
import Derived.JoinedTies
import Derived.KernelRfl
namespace Go.Proofs.YtebldfnocpcddaaGreatDoor
/- THE CELL 'sum', in the pinned program and in every row, IS THE sha256 OF THE DUMP (.gsa) THAT YtebldfnocpcddaaGreatDoorProg.lean LOADS. Nothing in Lean hashes anything: it is a label: what it is worth is what the hold of that sum in a sandbox is worth. -/
noncomputable def Tryz.pinned : Pinned := { name := "ytebldfnocpcddaagreatdoor", sum := "fc0c2f0da0f2b9426601e35acbb0ba0bdb693917661aa94a0e03ad762b788e3e", checked := Tryz.checked }
namespace Rows
def none {H : Type} : Left H := { results := [], args := [] }

/- WHAT THE LISTED PACKAGE-LEVEL VARIABLES READ AS WHEN THE CALL BEGINS. Each datum BY PROGRAM (the guide's laid-datum.mjs) off the statement by which the dump's own 'gosem.cut.vars' lays the variable. In a bare row this is a premise. The card (YtebldfnocpcddaaGreatDoorCards.lean) ties it to the program's text. -/
def laid_haulage_utf_least {H : Type} : DataW H := .agg [.lit (.int .i64 0), .lit (.int .i64 128), .lit (.int .i64 2048), .lit (.int .i64 65536)]
def laid_haulage_utf_firstMark {H : Type} : DataW H := .agg [.lit (.int .i64 0), .lit (.int .i64 192), .lit (.int .i64 224), .lit (.int .i64 240)]
def laid_unicode_utf8_acceptRanges {H : Type} : DataW H := .agg [.agg [.lit (.int .u8 128), .lit (.int .u8 191)], .agg [.lit (.int .u8 160), .lit (.int .u8 191)], .agg [.lit (.int .u8 128), .lit (.int .u8 159)], .agg [.lit (.int .u8 144), .lit (.int .u8 191)], .agg [.lit (.int .u8 128), .lit (.int .u8 143)], .agg [.lit (.int .u8 0), .lit (.int .u8 0)], .agg [.lit (.int .u8 0), .lit (.int .u8 0)], .agg [.lit (.int .u8 0), .lit (.int .u8 0)], .agg [.lit (.int .u8 0), .lit (.int .u8 0)], .agg [.lit (.int .u8 0), .lit (.int .u8 0)], .agg [.lit (.int .u8 0), .lit (.int .u8 0)], .agg [.lit (.int .u8 0), .lit (.int .u8 0)], .agg [.lit (.int .u8 0), .lit (.int .u8 0)], .agg [.lit (.int .u8 0), .lit (.int .u8 0)], .agg [.lit (.int .u8 0), .lit (.int .u8 0)], .agg [.lit (.int .u8 0), .lit (.int .u8 0)]]
def laid_haulage_typ_kindNames {H : Type} : DataW H := .agg [.lit (.string []), .lit (.string [105, 110, 116]), .lit (.string [108, 111, 110, 103]), .lit (.string [116, 101, 120, 116]), .lit (.string [98, 121, 116, 101, 115])]
def laid_haulage_ddltext_firstWords {H : Type} : DataW H := .agg [.lit (.string []), .lit (.string [99, 114, 101, 97, 116, 101]), .lit (.string [100, 114, 111, 112]), .lit (.string [114, 101, 110, 97, 109, 101]), .lit (.string [97, 100, 100]), .lit (.string [99, 117, 116]), .lit (.string [99, 97, 108, 108]), .lit (.string [119, 105, 100, 101, 110]), .lit (.string [112, 114, 101, 115, 101, 116])]
/-- One of Go's own tables, pinned by name: the form's constant. -/
def laid_unicode_utf8_first : DataW Unit := Go.Pinned.utf8First

/-- 'haulagelaw10.DdltextPrints': WHATEVER THE INPUT: true; the input reads as it did. -/
def ddltextPrintsSpec : ChangeSpec := { name := "ddltextPrints", fn := fun _ => fun
  | [d] => { results := [.lit (.bool true)], args := [d] }
  | _ => none }
def ddltextPrintsRow : OpenClaim := { program := "ytebldfnocpcddaagreatdoor", sum := "fc0c2f0da0f2b9426601e35acbb0ba0bdb693917661aa94a0e03ad762b788e3e", func := "haulage/haulagelaw10.DdltextPrints", spec := "ddltextPrints", inPlace := ["internal/bytealg.IndexByteString", "internal/bytealg.IndexString", "internal/abi.NoEscape"], unfollowed := true, recurses := true, named := ["haulage/ddltext.firstWords", "unicode/utf8.first", "unicode/utf8.acceptRanges", "haulage/typ.kindNames", "haulage/utf.firstMark", "haulage/utf.least", "internal/bytealg.MaxLen"], apart := false, laid := [("haulage/utf.least", laid_haulage_utf_least), ("haulage/utf.firstMark", laid_haulage_utf_firstMark), ("unicode/utf8.acceptRanges", laid_unicode_utf8_acceptRanges), ("haulage/typ.kindNames", laid_haulage_typ_kindNames), ("haulage/ddltext.firstWords", laid_haulage_ddltext_firstWords), ("unicode/utf8.first", laid_unicode_utf8_first)] }
def DdltextPrintsSaid : Prop := ddltextPrintsRow.holds Tryz.pinned (OpenSpec.ofChange ddltextPrintsSpec)

/-- ITS FALSE NEIGHBOUR: 'it returns false'. Refute it at one input. -/
def ddltextPrintsWrong : ChangeSpec := { name := "ddltextPrints", fn := fun _ => fun
  | [d] => { results := [.lit (.bool false)], args := [d] }
  | _ => none }
def DdltextPrintsWrongFalsely : Prop := ddltextPrintsRow.holds Tryz.pinned (OpenSpec.ofChange ddltextPrintsWrong)

/-- 'haulagelaw10.DdltextParses': WHATEVER THE INPUT: true; the input reads as it did. -/
def ddltextParsesSpec : ChangeSpec := { name := "ddltextParses", fn := fun _ => fun
  | [d] => { results := [.lit (.bool true)], args := [d] }
  | _ => none }
def ddltextParsesRow : OpenClaim := { program := "ytebldfnocpcddaagreatdoor", sum := "fc0c2f0da0f2b9426601e35acbb0ba0bdb693917661aa94a0e03ad762b788e3e", func := "haulage/haulagelaw10.DdltextParses", spec := "ddltextParses", inPlace := ["internal/bytealg.IndexByteString", "internal/bytealg.IndexString"], unfollowed := true, recurses := true, named := ["haulage/ddltext.firstWords", "unicode/utf8.first", "unicode/utf8.acceptRanges", "haulage/typ.kindNames", "haulage/utf.firstMark", "haulage/utf.least", "internal/bytealg.MaxLen"], apart := false, laid := [("haulage/utf.least", laid_haulage_utf_least), ("haulage/utf.firstMark", laid_haulage_utf_firstMark), ("unicode/utf8.acceptRanges", laid_unicode_utf8_acceptRanges), ("haulage/typ.kindNames", laid_haulage_typ_kindNames), ("haulage/ddltext.firstWords", laid_haulage_ddltext_firstWords), ("unicode/utf8.first", laid_unicode_utf8_first)] }
def DdltextParsesSaid : Prop := ddltextParsesRow.holds Tryz.pinned (OpenSpec.ofChange ddltextParsesSpec)

/-- ITS FALSE NEIGHBOUR: 'it returns false'. Refute it at one input. -/
def ddltextParsesWrong : ChangeSpec := { name := "ddltextParses", fn := fun _ => fun
  | [d] => { results := [.lit (.bool false)], args := [d] }
  | _ => none }
def DdltextParsesWrongFalsely : Prop := ddltextParsesRow.holds Tryz.pinned (OpenSpec.ofChange ddltextParsesWrong)

/-- 'haulagelaw10.DdltextBack': WHATEVER THE INPUT: true; the input reads as it did. -/
def ddltextBackSpec : ChangeSpec := { name := "ddltextBack", fn := fun _ => fun
  | [d1, d2, d3] => { results := [.lit (.bool true)], args := [d1, d2, d3] }
  | _ => none }
def ddltextBackRow : OpenClaim := { program := "ytebldfnocpcddaagreatdoor", sum := "fc0c2f0da0f2b9426601e35acbb0ba0bdb693917661aa94a0e03ad762b788e3e", func := "haulage/haulagelaw10.DdltextBack", spec := "ddltextBack", inPlace := ["internal/bytealg.IndexByteString", "internal/bytealg.IndexString", "internal/abi.NoEscape"], unfollowed := true, recurses := true, named := ["haulage/ddltext.firstWords", "unicode/utf8.first", "unicode/utf8.acceptRanges", "haulage/typ.kindNames", "haulage/utf.firstMark", "haulage/utf.least", "internal/bytealg.MaxLen"], apart := false, laid := [("haulage/utf.least", laid_haulage_utf_least), ("haulage/utf.firstMark", laid_haulage_utf_firstMark), ("unicode/utf8.acceptRanges", laid_unicode_utf8_acceptRanges), ("haulage/typ.kindNames", laid_haulage_typ_kindNames), ("haulage/ddltext.firstWords", laid_haulage_ddltext_firstWords), ("unicode/utf8.first", laid_unicode_utf8_first)] }
def DdltextBackSaid : Prop := ddltextBackRow.holds Tryz.pinned (OpenSpec.ofChange ddltextBackSpec)

/-- ITS FALSE NEIGHBOUR: 'it returns false'. Refute it at one input. -/
def ddltextBackWrong : ChangeSpec := { name := "ddltextBack", fn := fun _ => fun
  | [d1, d2, d3] => { results := [.lit (.bool false)], args := [d1, d2, d3] }
  | _ => none }
def DdltextBackWrongFalsely : Prop := ddltextBackRow.holds Tryz.pinned (OpenSpec.ofChange ddltextBackWrong)

/-- 'haulagelaw10.DdltextApart': WHATEVER THE INPUT: true; the input reads as it did. -/
def ddltextApartSpec : ChangeSpec := { name := "ddltextApart", fn := fun _ => fun
  | [d1, d2] => { results := [.lit (.bool true)], args := [d1, d2] }
  | _ => none }
def ddltextApartRow : OpenClaim := { program := "ytebldfnocpcddaagreatdoor", sum := "fc0c2f0da0f2b9426601e35acbb0ba0bdb693917661aa94a0e03ad762b788e3e", func := "haulage/haulagelaw10.DdltextApart", spec := "ddltextApart", inPlace := ["internal/bytealg.IndexByteString", "internal/bytealg.IndexString", "internal/abi.NoEscape"], unfollowed := true, recurses := true, named := ["haulage/ddltext.firstWords", "unicode/utf8.first", "unicode/utf8.acceptRanges", "haulage/typ.kindNames", "haulage/utf.firstMark", "haulage/utf.least", "internal/bytealg.MaxLen"], apart := false, laid := [("haulage/utf.least", laid_haulage_utf_least), ("haulage/utf.firstMark", laid_haulage_utf_firstMark), ("unicode/utf8.acceptRanges", laid_unicode_utf8_acceptRanges), ("haulage/typ.kindNames", laid_haulage_typ_kindNames), ("haulage/ddltext.firstWords", laid_haulage_ddltext_firstWords), ("unicode/utf8.first", laid_unicode_utf8_first)] }
def DdltextApartSaid : Prop := ddltextApartRow.holds Tryz.pinned (OpenSpec.ofChange ddltextApartSpec)

/-- ITS FALSE NEIGHBOUR: 'it returns false'. Refute it at one input. -/
def ddltextApartWrong : ChangeSpec := { name := "ddltextApart", fn := fun _ => fun
  | [d1, d2] => { results := [.lit (.bool false)], args := [d1, d2] }
  | _ => none }
def DdltextApartWrongFalsely : Prop := ddltextApartRow.holds Tryz.pinned (OpenSpec.ofChange ddltextApartWrong)

/- THE SECOND FORM. 'bulk': how many values and letters a reading holds, each counted each time it is reached (what is shared counts as often as it is met; a slice's spare places count too). A statement '..UptoSaid' is the law's where the arguments, and the package variables that the reading takes, are together of bulk at most 1048576: NARROWER than '..Said'. Prove '..Said' where nothing that the law and all that it calls make is longer than what came in: it says more and counts as full. Else prove '..UptoSaid'. A law counts once. -/
mutual
def uptoBulk {H : Type} : DataW H → Nat
  | .lit (.string bytes) => bytes.length + 1
  | .lit _ => 1
  | .nil => 1
  | .ptr d => uptoBulk d + 1
  | .slice elems spare => uptoBulkAll elems + uptoBulkAll spare + 1
  | .agg parts => uptoBulkAll parts + 1
  | .iface _ d => uptoBulk d + 1
  | .map entries => uptoBulkEntries entries + 1
  | .held _ => 1
def uptoBulkAll {H : Type} : List (DataW H) → Nat
  | [] => 0
  | d :: r => uptoBulk d + uptoBulkAll r
def uptoBulkEntries {H : Type} : List (Lit × DataW H) → Nat
  | [] => 0
  | x :: r => uptoBulkEntry x + uptoBulkEntries r
def uptoBulkEntry {H : Type} : Lit × DataW H → Nat
  | (.string bytes, d) => bytes.length + uptoBulk d + 1
  | (_, d) => uptoBulk d + 1
 end
def uptoSmall : (H : Type) → List (DataW H) → Bool := fun _ ds => decide (uptoBulkAll ds ≤ 1048576)
def OpenSpec.upto (s : _root_.Go.ChangeSpec) : _root_.Go.OpenSpec := { _root_.Go.OpenSpec.ofChange s with cond := some uptoSmall }

/-- 'haulagelaw10.DdltextPrints', WHERE WHAT IT READS IS OF BULK AT MOST 1048576: true; the input reads as it did. -/
def ddltextPrintsUptoRow : OpenClaim := { program := "ytebldfnocpcddaagreatdoor", sum := "fc0c2f0da0f2b9426601e35acbb0ba0bdb693917661aa94a0e03ad762b788e3e", func := "haulage/haulagelaw10.DdltextPrints", spec := "ddltextPrints", inPlace := ["internal/bytealg.IndexByteString", "internal/bytealg.IndexString", "internal/abi.NoEscape"], unfollowed := true, recurses := true, named := ["haulage/ddltext.firstWords", "unicode/utf8.first", "unicode/utf8.acceptRanges", "haulage/typ.kindNames", "haulage/utf.firstMark", "haulage/utf.least", "internal/bytealg.MaxLen"], apart := false, laid := [("haulage/utf.least", laid_haulage_utf_least), ("haulage/utf.firstMark", laid_haulage_utf_firstMark), ("unicode/utf8.acceptRanges", laid_unicode_utf8_acceptRanges), ("haulage/typ.kindNames", laid_haulage_typ_kindNames), ("haulage/ddltext.firstWords", laid_haulage_ddltext_firstWords), ("unicode/utf8.first", laid_unicode_utf8_first)], narrowed := true }
def DdltextPrintsUptoSaid : Prop := ddltextPrintsUptoRow.holds Tryz.pinned (OpenSpec.upto ddltextPrintsSpec)

/-- 'haulagelaw10.DdltextParses', WHERE WHAT IT READS IS OF BULK AT MOST 1048576: true; the input reads as it did. -/
def ddltextParsesUptoRow : OpenClaim := { program := "ytebldfnocpcddaagreatdoor", sum := "fc0c2f0da0f2b9426601e35acbb0ba0bdb693917661aa94a0e03ad762b788e3e", func := "haulage/haulagelaw10.DdltextParses", spec := "ddltextParses", inPlace := ["internal/bytealg.IndexByteString", "internal/bytealg.IndexString"], unfollowed := true, recurses := true, named := ["haulage/ddltext.firstWords", "unicode/utf8.first", "unicode/utf8.acceptRanges", "haulage/typ.kindNames", "haulage/utf.firstMark", "haulage/utf.least", "internal/bytealg.MaxLen"], apart := false, laid := [("haulage/utf.least", laid_haulage_utf_least), ("haulage/utf.firstMark", laid_haulage_utf_firstMark), ("unicode/utf8.acceptRanges", laid_unicode_utf8_acceptRanges), ("haulage/typ.kindNames", laid_haulage_typ_kindNames), ("haulage/ddltext.firstWords", laid_haulage_ddltext_firstWords), ("unicode/utf8.first", laid_unicode_utf8_first)], narrowed := true }
def DdltextParsesUptoSaid : Prop := ddltextParsesUptoRow.holds Tryz.pinned (OpenSpec.upto ddltextParsesSpec)

/-- 'haulagelaw10.DdltextBack', WHERE WHAT IT READS IS OF BULK AT MOST 1048576: true; the input reads as it did. -/
def ddltextBackUptoRow : OpenClaim := { program := "ytebldfnocpcddaagreatdoor", sum := "fc0c2f0da0f2b9426601e35acbb0ba0bdb693917661aa94a0e03ad762b788e3e", func := "haulage/haulagelaw10.DdltextBack", spec := "ddltextBack", inPlace := ["internal/bytealg.IndexByteString", "internal/bytealg.IndexString", "internal/abi.NoEscape"], unfollowed := true, recurses := true, named := ["haulage/ddltext.firstWords", "unicode/utf8.first", "unicode/utf8.acceptRanges", "haulage/typ.kindNames", "haulage/utf.firstMark", "haulage/utf.least", "internal/bytealg.MaxLen"], apart := false, laid := [("haulage/utf.least", laid_haulage_utf_least), ("haulage/utf.firstMark", laid_haulage_utf_firstMark), ("unicode/utf8.acceptRanges", laid_unicode_utf8_acceptRanges), ("haulage/typ.kindNames", laid_haulage_typ_kindNames), ("haulage/ddltext.firstWords", laid_haulage_ddltext_firstWords), ("unicode/utf8.first", laid_unicode_utf8_first)], narrowed := true }
def DdltextBackUptoSaid : Prop := ddltextBackUptoRow.holds Tryz.pinned (OpenSpec.upto ddltextBackSpec)

/-- 'haulagelaw10.DdltextApart', WHERE WHAT IT READS IS OF BULK AT MOST 1048576: true; the input reads as it did. -/
def ddltextApartUptoRow : OpenClaim := { program := "ytebldfnocpcddaagreatdoor", sum := "fc0c2f0da0f2b9426601e35acbb0ba0bdb693917661aa94a0e03ad762b788e3e", func := "haulage/haulagelaw10.DdltextApart", spec := "ddltextApart", inPlace := ["internal/bytealg.IndexByteString", "internal/bytealg.IndexString", "internal/abi.NoEscape"], unfollowed := true, recurses := true, named := ["haulage/ddltext.firstWords", "unicode/utf8.first", "unicode/utf8.acceptRanges", "haulage/typ.kindNames", "haulage/utf.firstMark", "haulage/utf.least", "internal/bytealg.MaxLen"], apart := false, laid := [("haulage/utf.least", laid_haulage_utf_least), ("haulage/utf.firstMark", laid_haulage_utf_firstMark), ("unicode/utf8.acceptRanges", laid_unicode_utf8_acceptRanges), ("haulage/typ.kindNames", laid_haulage_typ_kindNames), ("haulage/ddltext.firstWords", laid_haulage_ddltext_firstWords), ("unicode/utf8.first", laid_unicode_utf8_first)], narrowed := true }
def DdltextApartUptoSaid : Prop := ddltextApartUptoRow.holds Tryz.pinned (OpenSpec.upto ddltextApartSpec)

end Rows
end Go.Proofs.YtebldfnocpcddaaGreatDoor
