/-
  The page's example of layer 9.
-/
import Derived.Test.YthmjgaekcghonaaGreatDoorPart1
import Derived.Test.YthmjgaekcghonaaGreatDoorPart2
import Derived.Test.YthmjgaekcghonaaGreatDoorPart3
import Derived.Test.YthmjgaekcghonaaGreatDoorPart4
import Derived.Test.YthmjgaekcghonaaGreatDoorPart5
import Derived.Test.YthmjgaekcghonaaGreatDoorPart6
import Derived.Test.YthmjgaekcghonaaGreatDoorPart7
import Derived.Test.YthmjgaekcghonaaGreatDoorPart8
import Derived.Test.YthmjgaekcghonaaGreatDoorPart9
import Derived.Test.YthmjgaekcghonaaGreatDoorPart10
import Derived.Test.YthmjgaekcghonaaGreatDoorPart11
namespace Go.Proofs.YthmjgaekcghonaaGreatDoor
open Go.RowKit

/-- a column a (int); the change that makes t with it -/
def exC : Cb := ⟨0, ⟨#[97]⟩, 1, 0, false, 0, 0, ⟨#[]⟩⟩
def exD : Dp := ⟨1, ⟨#[116]⟩, ⟨#[]⟩, ⟨#[]⟩, ⟨#[97]⟩, 0, 0, false, 0, 0, ⟨#[]⟩, [exC]⟩
set_option maxRecDepth 100000 in
theorem create9_any (w : World) : Calls Tryz.prog 15 #[] w fun e w' => ∃ b, e = .returned (DV ⟨exD, some ⟨b, 0, none⟩, 1⟩) ∧ DdlAt w' w'.heap.size ⟨exD, some ⟨b, 0, none⟩, 1⟩ ∧ Below w.heap.size w w' := by
  go_enter Tryz.func15, Tryz.ntmps15
  go_wp2_with fail
  go_returns
  refine ⟨_, rfl, fun _ => ⟨_, 0, rfl, ?_, fun j x hj i v hv => ?_⟩, by go_grown⟩
  · simp
  · cases j with
    | succ j => simp [exD] at hj
    | zero =>
      simp [exD] at hj; subst hj
      simp only [fC, exC] at hv
      match i, hv with
      | 0, hv => simp at hv; subst hv; simp
      | 1, hv => simp at hv; subst hv; simp
      | 2, hv => simp at hv; subst hv; simp
      | 3, hv => simp at hv; subst hv; simp
      | 4, hv => simp at hv; subst hv; simp
      | 5, hv => simp at hv; subst hv; simp
      | 6, hv => simp at hv; subst hv; simp
      | 7, hv => simp at hv; subst hv; simp
      | i + 8, hv => simp at hv
theorem exD_wf : WfD exD := ⟨by decide, by decide, by decide, by decide, by decide, ⟨by decide, by decide⟩, fun c hc => by
  obtain rfl : c = exC := by simpa [exD] using hc
  exact ⟨by decide, by decide, by decide⟩⟩
theorem exD_right : applyE [] exD 4 = 0 ∧ applyO [] exD 4 = [⟨4, ⟨#[116]⟩, 0, 1, [exC]⟩] := by
  have hR : RightL [] := ⟨by simp, by simp, List.Pairwise.nil⟩
  have hp : plainD exD = true := by decide +kernel
  have hc : createE [] exD 4 = 0 := by decide +kernel
  have he : applyE [] exD 4 = 0 := by
    rw [applyE_chg hR hp (by decide)]
    unfold chgE
    rw [if_pos (show exD.op = 1 from rfl)]; exact hc
  refine ⟨he, ?_⟩
  unfold applyO
  rw [if_pos he]
  unfold applyR
  rw [if_pos (show exD.op = 1 from rfl)]
  have hk : colP exD.cols exD.key = some 0 := by decide +kernel
  unfold insT madeT
  rw [hk]
  rfl
set_option maxRecDepth 100000 in
set_option maxHeartbeats 1000000 in
theorem lives9_any (w : World) (ht : UTab w) : Calls Tryz.prog 5 #[] w fun e w' => e = .returned (.bool true) ∧ Below w.heap.size w w' := by
  have HT := Lib.hid ht; clear ht
  go_enter Tryz.func5, Tryz.ntmps5
  go_wp2_with fail
  refine (create9_any _).mono ?_
  rintro e w1 ⟨b, rfl, hD, hb1⟩
  have Hb1 := Lib.hid hb1
  have HAp : Hid (Calls Tryz.prog 8 #[.agg #[.slice none 0 0], DV ⟨exD, some ⟨b, 0, none⟩, 1⟩, .int .i64 4] w1 fun e w' => ∃ A' cap' l', e = .returned (.tuple #[.agg #[.slice A' l'.length cap'], .int .i64 (applyE [] exD 4)]) ∧ CatAt w' A' cap' l' ∧
      l'.map Tb.p = applyO [] exD 4 ∧ Below w1.heap.size w1 w') :=
    apply_any none 0 [] ⟨exD, some ⟨b, 0, none⟩, 1⟩ 4 w1 (HT.out.below hb1 (Nat.le_refl _)) ⟨fun h => absurd h (by simp), by simp⟩ (by simp) (by simp) (by simp) hD
      exD_wf
  rw [exD_right.1, exD_right.2] at HAp
  clear hD hb1
  go_wp2_with fail
  refine HAp.out.mono ?_
  rintro e w2 ⟨A', cap', l', he, hcat, hl, hb2⟩
  obtain ⟨t, rfl, htp⟩ : ∃ t, l' = [t] ∧ t.p = ⟨4, ⟨#[116]⟩, 0, 1, [exC]⟩ := by
    cases l' with
    | nil => simp at hl
    | cons t r =>
      cases r with
      | nil => exact ⟨t, rfl, by simpa using hl⟩
      | cons u v => simp at hl
  subst he
  have Hb2 := Lib.hid (bthen Hb1.out hb2)
  obtain ⟨g, off, hA, hgB, d0, d1, d2, d3, d4⟩ := TabsAt.get hcat.1 0 t rfl
  subst hA
  have e0 : t.id = 4 := congrArg Tp.id htp
  have e3 : t.nx = 1 := congrArg Tp.nx htp
  have e4 : t.cols.length = 1 := by rw [show t.cols = [exC] from congrArg Tp.cols htp]; rfl
  rw [e0] at d0
  rw [e3] at d3
  rw [e4] at d4
  simp only [Nat.zero_mul, Nat.add_zero] at d0 d1 d2 d3 d4
  have k0 := fun o => keep_alloc d0 o
  have k3 := fun o => keep_alloc d3 o
  have k4 := fun o => keep_alloc d4 o
  have Hb3 := Lib.hid (fun o => bthen Hb2.out (below_one w2 o))
  clear hcat hl hb2 htp e0 e3 e4
  go_wp2_with fail
  go_ret
  exact ⟨rfl, Hb3.out _⟩
end Go.Proofs.YthmjgaekcghonaaGreatDoor
