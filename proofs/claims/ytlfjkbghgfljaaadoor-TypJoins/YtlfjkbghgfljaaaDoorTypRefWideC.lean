/-
  The contract of the document's own Wide.
-/
import Derived.Test.YtlfjkbghgfljaaaDoorTypMath
namespace Go.Proofs.YtlfjkbghgfljaaaDoor
open Go.RowKit

set_option maxRecDepth 100000 in
set_option maxHeartbeats 1600000 in
theorem trwide_yes (k m k2 m2 : Int) (w : World) (HR1 : Hid (∀ w, Calls Tryd.prog 11 #[TT k m] w fun e w' => e = .returned (.bool true) ∧ Below w.heap.size w w'))
    (HR2 : Hid (∀ w, Calls Tryd.prog 11 #[TT k2 m2] w fun e w' => e = .returned (.bool true) ∧ Below w.heap.size w w')) :
    Calls Tryd.prog 15 #[TT k m, TT k2 m2] w fun e w' => e = .returned (.bool (rwideT k m k2 m2)) ∧ Below w.heap.size w w' := by
  have Hv : Hid (rwideT k m k2 m2 = bif k2 == 1 then (decide (k ≤ 2) || decide (11 ≤ m)) else bif k2 == 2 then ((k == 2) || (decide (2 < k) && decide (20 ≤ m))) else bif k2 == 3 then (decide (3 ≤ k) && decide (m2 ≤ m)) else ((k == 4) && decide (m2 ≤ m))) := rfl
  generalize h1 : (k2 == 1) = b1 at Hv
  generalize h2 : (k2 == 2) = b2 at Hv
  generalize h3 : (k2 == 3) = b3 at Hv
  generalize h4 : decide (k ≤ 2) = b4 at Hv
  generalize h5 : decide (11 ≤ m) = b5 at Hv
  generalize h6 : (k == 2) = b6 at Hv
  generalize h7 : decide (2 < k) = b7 at Hv
  generalize h8 : decide (20 ≤ m) = b8 at Hv
  generalize h9 : decide (3 ≤ k) = b9 at Hv
  generalize h10 : decide (m2 ≤ m) = b10 at Hv
  generalize h11 : (k == 4) = b11 at Hv
  cases b1
  · cases b2
    · cases b3
      · clear h4 h5 h6 h7 h8 h9
        cases b11
        all_goals
          go_enter Tryd.func15, Tryd.ntmps15
          go_wp2_with fail
          refine (HR1.out _).mono ?_
          rintro e w1 ⟨rfl, hb1⟩
          have HB := Lib.hid ((Bx.new w _ _ _ _ _ _).step hb1)
          obtain ⟨⟨c0, c1, _⟩, ⟨d0, d1, _⟩, _⟩ := HB.out
          clear hb1
          go_wp2_with fail
          refine (HR2.out _).mono ?_
          rintro e w2 ⟨rfl, hb2⟩
          have HB2 := Lib.hid (HB.out.step hb2)
          clear hb2 c0 c1 d0 d1
          obtain ⟨⟨c0, c1, _⟩, ⟨d0, d1, _⟩, _⟩ := HB2.out
          go_wp2_with fail
          go_ret
          exact ⟨by rw [Hv.out]; rfl, HB2.out.2.2.2⟩
      · clear h4 h5 h6 h7 h8 h11
        cases b9
        all_goals
          go_enter Tryd.func15, Tryd.ntmps15
          go_wp2_with fail
          refine (HR1.out _).mono ?_
          rintro e w1 ⟨rfl, hb1⟩
          have HB := Lib.hid ((Bx.new w _ _ _ _ _ _).step hb1)
          obtain ⟨⟨c0, c1, _⟩, ⟨d0, d1, _⟩, _⟩ := HB.out
          clear hb1
          go_wp2_with fail
          refine (HR2.out _).mono ?_
          rintro e w2 ⟨rfl, hb2⟩
          have HB2 := Lib.hid (HB.out.step hb2)
          clear hb2 c0 c1 d0 d1
          obtain ⟨⟨c0, c1, _⟩, ⟨d0, d1, _⟩, _⟩ := HB2.out
          go_wp2_with fail
          go_ret
          exact ⟨by rw [Hv.out]; rfl, HB2.out.2.2.2⟩
    · clear h3 h4 h5 h9 h10 h11
      cases b6 <;> cases b7
      all_goals
        go_enter Tryd.func15, Tryd.ntmps15
        go_wp2_with fail
        refine (HR1.out _).mono ?_
        rintro e w1 ⟨rfl, hb1⟩
        have HB := Lib.hid ((Bx.new w _ _ _ _ _ _).step hb1)
        obtain ⟨⟨c0, c1, _⟩, ⟨d0, d1, _⟩, _⟩ := HB.out
        clear hb1
        go_wp2_with fail
        refine (HR2.out _).mono ?_
        rintro e w2 ⟨rfl, hb2⟩
        have HB2 := Lib.hid (HB.out.step hb2)
        clear hb2 c0 c1 d0 d1
        obtain ⟨⟨c0, c1, _⟩, ⟨d0, d1, _⟩, _⟩ := HB2.out
        go_wp2_with fail
        go_ret
        exact ⟨by rw [Hv.out]; rfl, HB2.out.2.2.2⟩
  · clear h2 h3 h6 h7 h8 h9 h10 h11
    cases b4
    all_goals
      go_enter Tryd.func15, Tryd.ntmps15
      go_wp2_with fail
      refine (HR1.out _).mono ?_
      rintro e w1 ⟨rfl, hb1⟩
      have HB := Lib.hid ((Bx.new w _ _ _ _ _ _).step hb1)
      obtain ⟨⟨c0, c1, _⟩, ⟨d0, d1, _⟩, _⟩ := HB.out
      clear hb1
      go_wp2_with fail
      refine (HR2.out _).mono ?_
      rintro e w2 ⟨rfl, hb2⟩
      have HB2 := Lib.hid (HB.out.step hb2)
      clear hb2 c0 c1 d0 d1
      obtain ⟨⟨c0, c1, _⟩, ⟨d0, d1, _⟩, _⟩ := HB2.out
      go_wp2_with fail
      go_ret
      exact ⟨by rw [Hv.out]; rfl, HB2.out.2.2.2⟩
set_option maxRecDepth 100000 in
set_option maxHeartbeats 1600000 in
theorem trwide_any (k m k2 m2 : Int) (w : World) : Calls Tryd.prog 15 #[TT k m, TT k2 m2] w fun e w' => e = .returned (.bool (wideT k m k2 m2)) ∧ Below w.heap.size w w' := by
  have HR1 := Lib.hid (fun w => trright_any k m w)
  have HR2 := Lib.hid (fun w => trright_any k2 m2 w)
  cases ha : rightT k m
  · have Hv : Hid (wideT k m k2 m2 = false) := by show _ = _; unfold wideT; rw [ha]; rfl
    rw [ha] at HR1
    go_enter Tryd.func15, Tryd.ntmps15
    go_wp2_with fail
    refine (HR1.out _).mono ?_
    rintro e w1 ⟨rfl, hb1⟩
    have HB := Lib.hid ((Bx.new w _ _ _ _ _ _).step hb1)
    clear hb1
    go_wp2_with fail
    go_ret
    exact ⟨by rw [Hv.out]; rfl, HB.out.2.2.2⟩
  cases hb : rightT k2 m2
  · have Hv : Hid (wideT k m k2 m2 = false) := by show _ = _; unfold wideT; rw [ha, hb]; rfl
    rw [ha] at HR1
    rw [hb] at HR2
    go_enter Tryd.func15, Tryd.ntmps15
    go_wp2_with fail
    refine (HR1.out _).mono ?_
    rintro e w1 ⟨rfl, hb1⟩
    have HB := Lib.hid ((Bx.new w _ _ _ _ _ _).step hb1)
    obtain ⟨⟨c0, c1, _⟩, ⟨d0, d1, _⟩, _⟩ := HB.out
    clear hb1
    go_wp2_with fail
    refine (HR2.out _).mono ?_
    rintro e w2 ⟨rfl, hb2⟩
    have HB2 := Lib.hid (HB.out.step hb2)
    clear hb2 c0 c1 d0 d1
    go_wp2_with fail
    go_ret
    exact ⟨by rw [Hv.out]; rfl, HB2.out.2.2.2⟩
  · rw [ha] at HR1
    rw [hb] at HR2
    rw [← rwideT_eq k m k2 m2 ha hb]
    exact trwide_yes k m k2 m2 w HR1 HR2
end Go.Proofs.YtlfjkbghgfljaaaDoor
