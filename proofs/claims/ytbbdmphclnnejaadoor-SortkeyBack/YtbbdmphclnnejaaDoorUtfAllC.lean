/-
  Contracts of utf.Right, Signs, Cut, Text.
-/
import Derived.Test.YtbbdmphclnnejaaDoorUtfEachC
namespace Go.Proofs.YtbbdmphclnnejaaDoor
open Go.RowKit

set_option maxRecDepth 100000 in
set_option maxHeartbeats 400000 in
theorem right_any (s : ByteArray) (w : World) (ht : UTab w) (hs : s.size ≤ 1000000) :
    Calls Tryd.prog 46 #[.string s] w fun e w' => e = .returned (.bool (sg (bs s)).isSome) ∧ Below w.heap.size w w' := by
  have HC := Lib.hid (fun w' h => count_any s w' h hs)
  have HT := Lib.hid ht; clear ht
  cases hsg : sg (bs s) with
  | none =>
    rw [hsg] at HC
    go_enter Tryd.func46, Tryd.ntmps46
    go_wp2_with fail
    refine (HC.out _ HT.out).mono ?_
    rintro e w1 ⟨rfl, hb1⟩
    go_wp2
    go_ret
    exact ⟨rfl, hb1⟩
  | some ns =>
    rw [hsg] at HC
    go_enter Tryd.func46, Tryd.ntmps46
    go_wp2_with fail
    refine (HC.out _ HT.out).mono ?_
    rintro e w1 ⟨rfl, hb1⟩
    go_wp2
    go_ret
    exact ⟨rfl, hb1⟩

end Go.Proofs.YtbbdmphclnnejaaDoor
