/-
  The example that each law of layer sum asks first, and the table out of the row's condition.
-/
import Derived.Test.YtemdgmiaaehokaaDoorSumC
import Derived.Lib.LaidTab
import Derived.LaidMore
import Derived.Stop.Joined
namespace Go.Proofs.YtemdgmiaaehokaaDoor
open Go.RowKit

theorem tab_of {W : World} (h : laidMetH Tryd.prog [("haulage/sum.fourShifts", Rows.laid_haulage_sum_fourShifts)] W) : Tab W := by
  rw [MakeChecks.laidMetH_plain _ _ _ (by kernel_rfl)] at h
  have e : (Rows.laid_haulage_sum_fourShifts : DataW Unit) = Lib.tabData .u32 ((List.range 16).map fun i => ((sh 4 i : Nat) : Int)) := by kernel_rfl
  rw [e] at h
  have hT := Lib.tabIs_of_head (g := 0) (t := 48) (e := 24) (by kernel_rfl) (by kernel_rfl) Tryd.underlying48 Tryd.underlying24 (by kernel_rfl) (by kernel_rfl) h
  intro i hi
  have := hT.cell (g := 0) (by kernel_rfl) i (by simpa using hi)
  rw [this]
  simp [List.getD, hi]

theorem crc_nine : crc [49, 50, 51, 52, 53, 54, 55, 56, 57] = 3808858755 := by decide +kernel

set_option maxRecDepth 100000 in
set_option maxHeartbeats 400000 in
theorem lives2_any (w : World) (ht : Tab w) : Calls Tryd.prog 8 #[] w fun e w' => e = .returned (.bool true) ∧ Below w.heap.size w w' := by
  have HT := Lib.hid ht; clear ht
  have hn : crc (bs ⟨#[49, 50, 51, 52, 53, 54, 55, 56, 57]⟩) = 3808858755 := crc_nine
  have hl := seal_length (bs ⟨#[97]⟩)
  rw [show (bs ⟨#[97]⟩).length = 1 from rfl] at hl
  go_enter Tryd.func8, Tryd.ntmps8
  go_wp2_with (first
    | (go_at_call 9; refine (of_one _ _ _ ⟨#[49, 50, 51, 52, 53, 54, 55, 56, 57]⟩ (HT.out.alloc _) (by simp) (by decide)).mono ?_; rintro e w1 ⟨rfl, rfl⟩)
    | (go_at_call 14; refine (seal_any _ _ (HT.out.alloc _) (by decide)).mono ?_; rintro e w1 ⟨rfl, hb1⟩))
  go_ret
  exact ⟨rfl, ((Below.refl _ _).alloc (Nat.le_refl _) _).trans (hb1.mono (by simp))⟩
end Go.Proofs.YtemdgmiaaehokaaDoor
