/-
  The page's examples of layer 7.
-/
import Derived.Test.YtbbdmphclnnejaaDoorSkNextC
import Derived.Test.YtbbdmphclnnejaaDoorSkOfC
import Derived.Test.YtbbdmphclnnejaaDoorNameOrdC
namespace Go.Proofs.YtbbdmphclnnejaaDoor
open Go.RowKit

theorem ofV_yes {l : List Vl} (h : allR l = true) : ofV l = .tuple #[.string ⟨(ofK l).toArray⟩, .int .i64 0] := by unfold ofV; rw [h]; rfl
theorem ofV_no {l : List Vl} (h : allR l = false) : ofV l = .tuple #[.string ⟨#[]⟩, .int .i64 2] := by unfold ofV; rw [h]; rfl
theorem live_of : ofV (vls [(1, -1, ⟨#[]⟩)]) = .tuple #[.string ⟨#[1, 127, 255, 255, 255]⟩, .int .i64 0] := by
  rw [ofV_yes (by decide +kernel), show ofK (vls [(1, -1, ⟨#[]⟩)]) = [1, 127, 255, 255, 255] by decide +kernel]
theorem live_next : nextV (bs ⟨#[97, 255]⟩) = .tuple #[.string ⟨#[98]⟩, .bool true] := next_yes (by decide +kernel)

set_option maxRecDepth 100000 in
set_option maxHeartbeats 400000 in
theorem lives7_any (w : World) (ht : UTab w) : Calls Tryd.prog 8 #[] w fun e w' => e = .returned (.bool true) ∧ Below w.heap.size w w' := by
  have HT := Lib.hid ht; clear ht
  have HO := Lib.hid (sof_any (some ⟨w.heap.size, 0, none⟩) 1 [(1, -1, ⟨#[]⟩)] _ (HT.out.alloc (.cells #[.int .i64 1, .int .i64 (-1), .string ⟨#[]⟩] 30)) (ValsAt.one w 1 (-1) ⟨#[]⟩) (by simp) (by intro v hv; simp [vls, vl] at hv; subst hv; exact ⟨by decide, by decide⟩))
  rw [live_of] at HO
  have HN := Lib.hid (fun w => snext_any ⟨#[97, 255]⟩ w (by decide))
  rw [live_next] at HN
  go_enter Tryd.func8, Tryd.ntmps8
  go_wp2_with fail
  refine HO.out.mono ?_
  rintro e w1 ⟨rfl, hb1⟩
  go_wp2_with fail
  refine (HN.out _).mono ?_
  rintro e w2 ⟨rfl, hb2⟩
  go_wp2_with fail
  go_ret
  exact ⟨rfl, bthen (below_new hb1) hb2⟩
end Go.Proofs.YtbbdmphclnnejaaDoor
