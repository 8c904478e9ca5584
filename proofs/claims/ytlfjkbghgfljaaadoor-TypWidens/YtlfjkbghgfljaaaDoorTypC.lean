/-
  Contracts of package typ: the small functions, Right and room; and of the document's own Right.
-/
import Derived.Test.YtlfjkbghgfljaaaDoorValC
import Derived.Test.YtlfjkbghgfljaaaDoorQuietB
import Derived.Handy
namespace Go.Proofs.YtlfjkbghgfljaaaDoor
open Go.RowKit

/-- a block of two cells that may be written -/
def Blk2 (w : World) (b : Nat) (x y : Value) : Prop := w.cell? ⟨b, 0, none⟩ = some x ∧ w.cell? ⟨b, 1, none⟩ = some y ∧ w.frozen? ⟨b, 0, none⟩ = false ∧ w.frozen? ⟨b, 1, none⟩ = false
theorem Blk2.new (w : World) (b : Nat) (x y : Value) (t : TypeId) (h : b = w.heap.size) : Blk2 (w.alloc (.cells #[x, y] t)) b x y := by
  subst h
  refine ⟨?_, ?_, ?_, ?_⟩ <;> simp
theorem Blk2.below {w w1 : World} {b B : Nat} {x y : Value} (h : Blk2 w b x y) (hb : Below B w w1) (hB : b < B) : Blk2 w1 b x y := by
  obtain ⟨c0, c1, f0, f1⟩ := h
  exact ⟨(hb.cell hB).trans c0, (hb.cell hB).trans c1, (hb.frozen hB).trans f0, (hb.frozen hB).trans f1⟩
theorem Blk2.alloc {w : World} {b : Nat} {x y : Value} (h : Blk2 w b x y) (hb : b < w.heap.size) (o : Obj) : Blk2 (w.alloc o) b x y := h.below ((Below.refl w.heap.size w).alloc (Nat.le_refl _) o) hb
theorem Blk2.set2 {w : World} {b : Nat} {x y x' y' : Value} (h : Blk2 w b x y) : Blk2 ((w.setCell ⟨b, 0, none⟩ x').setCell ⟨b, 1, none⟩ y') b x' y' := by
  obtain ⟨c0, c1, f0, f1⟩ := h
  have n01 : (⟨b, 0, none⟩ : Addr) ≠ ⟨b, 1, none⟩ := by simp
  refine ⟨?_, ?_, ?_, ?_⟩
  · rw [World.cell?_setCell_other _ _ _ _ n01.symm, World.cell?_setCell_same _ _ _ c0]
  · rw [World.cell?_setCell_same _ _ _ (by rw [World.cell?_setCell_other _ _ _ _ n01]; exact c1)]
  all_goals simpa only [World.frozen?_setCell]
theorem Blk3.new' (w : World) (b : Nat) (x y z : Value) (t : TypeId) (h : b = w.heap.size) : Blk3 (w.alloc (.cells #[x, y, z] t)) b x y z := by
  subst h; exact Blk3.new w x y z t
theorem results_t2 {fn : Func} {p u : Tmp} (h : fn.results = #[.cell p 23, .tmp u]) (tmps : Array Value) (w : World) {b : Nat} {x y : Value} (hp : tmps.getD p undef = .pointer (some ⟨b, 0, none⟩)) (hb : Blk2 w b x y) :
    (results fn tmps).run Tryd.prog w = .ok (.tuple #[.agg #[x, y], tmps.getD u undef]) w := by
  obtain ⟨c0, c1, _⟩ := hb
  have hp' : tmps[p]?.getD undef = .pointer (some ⟨b, 0, none⟩) := by simpa using hp
  simp [results, h, go_sem, hp', c0, c1]
theorem results_t3 {fn : Func} {p u v : Tmp} (h : fn.results = #[.cell p 23, .tmp u, .tmp v]) (tmps : Array Value) (w : World) {b : Nat} {x y : Value} (hp : tmps.getD p undef = .pointer (some ⟨b, 0, none⟩)) (hb : Blk2 w b x y) :
    (results fn tmps).run Tryd.prog w = .ok (.tuple #[.agg #[x, y], tmps.getD u undef, tmps.getD v undef]) w := by
  obtain ⟨c0, c1, _⟩ := hb
  have hp' : tmps[p]?.getD undef = .pointer (some ⟨b, 0, none⟩) := by simpa using hp
  simp [results, h, go_sem, hp', c0, c1]

/-- a type as the program has it -/
abbrev TT (k m : Int) : Value := .agg #[.int .i64 k, .int .i64 m]
def numK (k : Int) : Bool := (k == 1) || (k == 2)
def strK (k : Int) : Bool := (k == 3) || (k == 4)
def maxK (m : Int) : Bool := decide (1 ≤ m) && decide (m ≤ 120)
/-- is it a valid type? -/
def rightT (k m : Int) : Bool := bif numK k then (m == 0) else (strK k && maxK m)
/-- how many bytes a value of the type needs -/
def roomT (k m : Int) : Int := if k = 1 then 11 else if k = 2 then 20 else m

set_option maxHeartbeats 400000 in
theorem isnum_any (k : Int) (w : World) : Calls Tryd.prog 26 #[.int .i64 k] w fun e w' => e = .returned (.bool (numK k)) ∧ w = w' := by
  have Hv : Hid (numK k = ((k == 1) || (k == 2))) := rfl
  generalize h1 : (k == 1) = b1 at Hv
  generalize h2 : (k == 2) = b2 at Hv
  cases b1 <;> cases b2
  all_goals
    go_enter Tryd.func26, Tryd.ntmps26
    go_wp2_with fail
    go_ret
    exact ⟨by rw [Hv.out]; rfl, rfl⟩
set_option maxHeartbeats 400000 in
theorem isstr_any (k : Int) (w : World) : Calls Tryd.prog 27 #[.int .i64 k] w fun e w' => e = .returned (.bool (strK k)) ∧ w = w' := by
  have Hv : Hid (strK k = ((k == 3) || (k == 4))) := rfl
  generalize h1 : (k == 3) = b1 at Hv
  generalize h2 : (k == 4) = b2 at Hv
  cases b1 <;> cases b2
  all_goals
    go_enter Tryd.func27, Tryd.ntmps27
    go_wp2_with fail
    go_ret
    exact ⟨by rw [Hv.out]; rfl, rfl⟩
set_option maxHeartbeats 400000 in
theorem rmax_any (m : Int) (w : World) : Calls Tryd.prog 28 #[.int .i64 m] w fun e w' => e = .returned (.bool (maxK m)) ∧ w = w' := by
  have Hv : Hid (maxK m = (decide (1 ≤ m) && decide (m ≤ 120))) := rfl
  generalize h1 : decide (1 ≤ m) = b1 at Hv
  generalize h2 : decide (m ≤ 120) = b2 at Hv
  cases b1 <;> cases b2
  all_goals
    go_enter Tryd.func28, Tryd.ntmps28
    go_wp2_with fail
    go_ret
    exact ⟨by rw [Hv.out]; rfl, rfl⟩
theorem reach_any (k k2 : Int) (w : World) : Calls Tryd.prog 31 #[.int .i64 k, .int .i64 k2] w fun e w' => e = .returned (.bool (decide (k2 ≤ k))) ∧ w = w' := by
  go_enter Tryd.func31, Tryd.ntmps31
  go_wp2_with fail
  go_ret
  exact ⟨rfl, rfl⟩
theorem roomT_cases (k m : Int) : (k = 1 ∧ roomT k m = 11) ∨ (k = 2 ∧ roomT k m = 20) ∨ ((k == 1) = false ∧ (k == 2) = false ∧ roomT k m = m) := by
  unfold roomT
  by_cases h1 : k = 1
  · exact .inl ⟨h1, if_pos h1⟩
  · by_cases h2 : k = 2
    · exact .inr (.inl ⟨h2, by rw [if_neg h1, if_pos h2]⟩)
    · exact .inr (.inr ⟨by simpa using h1, by simpa using h2, by rw [if_neg h1, if_neg h2]⟩)
set_option maxHeartbeats 400000 in
theorem room_any (k m : Int) (w : World) : Calls Tryd.prog 32 #[TT k m] w fun e w' => e = .returned (.int .i64 (roomT k m)) ∧ Below w.heap.size w w' := by
  rcases roomT_cases k m with ⟨rfl, hv⟩ | ⟨rfl, hv⟩ | ⟨h1, h2, hv⟩
  all_goals
    have Hv := Lib.hid hv; clear hv
    go_enter Tryd.func32, Tryd.ntmps32
    go_wp2_with fail
    go_ret
    exact ⟨by rw [Hv.out]; rfl, by go_grown⟩
set_option maxHeartbeats 800000 in
theorem tright_any (k m : Int) (w : World) : Calls Tryd.prog 10 #[TT k m] w fun e w' => e = .returned (.bool (rightT k m)) ∧ Below w.heap.size w w' := by
  have HN := Lib.hid (fun w => isnum_any k w)
  have HS := Lib.hid (fun w => isstr_any k w)
  have HM := Lib.hid (fun w => rmax_any m w)
  have Hv : Hid (rightT k m = bif numK k then (m == 0) else (strK k && maxK m)) := rfl
  generalize numK k = a at HN Hv
  generalize strK k = b at HS Hv
  generalize maxK m = c at HM Hv
  generalize hz : (m == 0) = z at Hv
  cases a
  · cases b
    · go_enter Tryd.func10, Tryd.ntmps10
      go_wp2_with fail
      refine (HN.out _).mono ?_
      rintro e w1 ⟨rfl, rfl⟩
      go_wp2_with fail
      refine (HS.out _).mono ?_
      rintro e w1 ⟨rfl, rfl⟩
      go_wp2_with fail
      go_ret
      exact ⟨by rw [Hv.out]; rfl, by go_grown⟩
    · go_enter Tryd.func10, Tryd.ntmps10
      go_wp2_with fail
      refine (HN.out _).mono ?_
      rintro e w1 ⟨rfl, rfl⟩
      go_wp2_with fail
      refine (HS.out _).mono ?_
      rintro e w1 ⟨rfl, rfl⟩
      go_wp2_with fail
      refine (HM.out _).mono ?_
      rintro e w1 ⟨rfl, rfl⟩
      go_wp2_with fail
      go_ret
      exact ⟨by rw [Hv.out]; rfl, by go_grown⟩
  · go_enter Tryd.func10, Tryd.ntmps10
    go_wp2_with fail
    refine (HN.out _).mono ?_
    rintro e w1 ⟨rfl, rfl⟩
    go_wp2_with fail
    go_ret
    exact ⟨by rw [Hv.out]; rfl, by go_grown⟩
set_option maxHeartbeats 1600000 in
theorem trright_any (k m : Int) (w : World) : Calls Tryd.prog 11 #[TT k m] w fun e w' => e = .returned (.bool (rightT k m)) ∧ Below w.heap.size w w' := by
  have Hv : Hid (rightT k m = bif ((k == 1) || (k == 2)) then (m == 0) else (((k == 3) || (k == 4)) && (decide (1 ≤ m) && decide (m ≤ 120)))) := rfl
  generalize hz : (m == 0) = z at Hv
  generalize h1 : (k == 1) = b1 at Hv
  generalize h2 : (k == 2) = b2 at Hv
  generalize h3 : (k == 3) = b3 at Hv
  generalize h4 : (k == 4) = b4 at Hv
  generalize h5 : decide (1 ≤ m) = b5 at Hv
  generalize h6 : decide (m ≤ 120) = b6 at Hv
  cases b1
  · cases b2
    · cases b3 <;> cases b4 <;> cases b5
      all_goals
        go_enter Tryd.func11, Tryd.ntmps11
        go_wp2_with fail
        go_ret
        exact ⟨by rw [Hv.out]; rfl, by go_grown⟩
    · go_enter Tryd.func11, Tryd.ntmps11
      go_wp2_with fail
      go_ret
      exact ⟨by rw [Hv.out]; rfl, by go_grown⟩
  · go_enter Tryd.func11, Tryd.ntmps11
    go_wp2_with fail
    go_ret
    exact ⟨by rw [Hv.out]; rfl, by go_grown⟩
end Go.Proofs.YtlfjkbghgfljaaaDoor
