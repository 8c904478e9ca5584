/-
  Contract of the document's own Apply of layer 9.
-/
import Derived.Test.YthmjgaekcghonaaGreatDoorDdlRefAppC1
import Derived.Test.YthmjgaekcghonaaGreatDoorDdlRefAppC2
import Derived.Test.YthmjgaekcghonaaGreatDoorPart1
import Derived.Test.YthmjgaekcghonaaGreatDoorPart2
import Derived.Test.YthmjgaekcghonaaGreatDoorPart3
import Derived.Test.YthmjgaekcghonaaGreatDoorPart4
import Derived.Test.YthmjgaekcghonaaGreatDoorPart5
import Derived.Test.YthmjgaekcghonaaGreatDoorPart6
import Derived.Test.YthmjgaekcghonaaGreatDoorPart7
import Derived.Test.YthmjgaekcghonaaGreatDoorPart8
import Derived.Test.YthmjgaekcghonaaGreatDoorPart9
import Derived.Test.YthmjgaekcghonaaGreatDoorPart10
import Derived.Test.YthmjgaekcghonaaGreatDoorPart11
namespace Go.Proofs.YthmjgaekcghonaaGreatDoor
open Go.RowKit

theorem rapply_any (A : Option Addr) (cp : Nat) (l : List Tb) (d : Db) (id : Int) (w : World) (hA : TabsAt w w.heap.size A l) (hw : ∀ t ∈ l, WfT t) (hl : l.length ≤ 1000000) (hD : DdlAt w w.heap.size d) (hd : WfD d.p) :
    Calls Tryz.prog 9 #[.agg #[.slice A l.length cp], DV d, .int .i64 id] w fun e w' => ApplyEnd (l.map Tb.p) d.p id w e w' := by
  by_cases h : RightL (l.map Tb.p) ∧ plainD d.p = true ∧ 0 ≤ id
  · by_cases e : d.p.op = 1
    · exact rapply_create A cp l d id w hA hw hl hD hd ((rightL_iff l).2 h.1) h.2.1 h.2.2 e
    · exact rapply_other A cp l d id w hA hw hl hD hd ((rightL_iff l).2 h.1) h.2.1 h.2.2 e
  · exact rapply_bad A cp l d id w hA hw hl hD hd h
end Go.Proofs.YthmjgaekcghonaaGreatDoor
