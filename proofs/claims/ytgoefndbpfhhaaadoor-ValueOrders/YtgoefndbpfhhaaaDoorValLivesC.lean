/-
  The examples that each law of layer value asks first.
-/
import Derived.Test.YtgoefndbpfhhaaaDoorValParseC
namespace Go.Proofs.YtgoefndbpfhhaaaDoor
open Go.RowKit

theorem wf64 {n : Int} (h : (Lit.int .i64 n).wf = true) : -9223372036854775808 ≤ n ∧ n < 9223372036854775808 := by
  have h2 : IntKind.i64.min ≤ n ∧ n ≤ 9223372036854775807 := by simpa [Lit.wf] using h
  have h3 : (-9223372036854775808 : Int) = IntKind.i64.min := by decide
  omega
theorem lives_pr1 : prW 2 (-5) [] = [45, 53, 108] := by
  show dz (-5) ++ [108] = _
  rw [dz_neg (by decide), dn_lt (by decide)]; rfl
theorem lives_p1 : parseW [45, 53, 108] = ((2, -5, []), 0) := by rw [← lives_pr1]; exact print_parse rfl (by decide) (by decide)
theorem lives_pr2 : prW 4 0 [10, 255] = [120, 34, 48, 97, 102, 102, 34] := by decide
theorem lives_p2 : parseW [120, 34, 48, 97, 102, 102, 34] = ((4, 0, [10, 255]), 0) := by rw [← lives_pr2]; exact print_parse (by decide) (by decide) (by decide)

set_option maxRecDepth 100000 in
set_option maxHeartbeats 800000 in
theorem lives5_any (w : World) (ht : UTab w) : Calls Tryd.prog 9 #[] w fun e w' => e = .returned (.bool true) ∧ Below w.heap.size w w' := by
  have HT := Lib.hid ht; clear ht
  have H1 := Lib.hid (fun w h => vparse_any ⟨#[45, 53, 108]⟩ w h (by decide))
  rw [show bs ⟨#[45, 53, 108]⟩ = [45, 53, 108] from rfl, parV_eq lives_p1] at H1
  have H2 := Lib.hid (fun w h => vparse_any ⟨#[120, 34, 48, 97, 102, 102, 34]⟩ w h (by decide))
  rw [show bs ⟨#[120, 34, 48, 97, 102, 102, 34]⟩ = [120, 34, 48, 97, 102, 102, 34] from rfl, parV_eq lives_p2] at H2
  go_enter Tryd.func9, Tryd.ntmps9
  go_wp2_with fail
  refine (H1.out _ HT.out).mono ?_
  rintro e w1 ⟨rfl, hb1⟩
  have HT1 := Lib.hid (HT.out.below hb1 (Nat.le_refl _))
  go_wp2_with fail
  refine (H2.out _ (HT1.out.alloc _)).mono ?_
  rintro e w2 ⟨rfl, hb2⟩
  have HB := Lib.hid ((Blk3.new w1 _ _ _ _).below hb2 (by simp))
  have hlt := new_lt hb2
  have hb2' := hb1.trans ((below_new hb2).mono hb1.size)
  have hs1 := hb1.size
  clear hb1 hb2
  obtain ⟨c0, c1, c2, f0, f1, f2⟩ := HB.out
  go_wp2_with fail
  go_ret
  exact ⟨rfl, by go_grown⟩
end Go.Proofs.YtgoefndbpfhhaaaDoor
