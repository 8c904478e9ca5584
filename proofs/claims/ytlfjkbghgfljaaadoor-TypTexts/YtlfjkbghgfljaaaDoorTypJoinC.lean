/-
  The contract of package typ's Join.
-/
import Derived.Test.YtlfjkbghgfljaaaDoorTypMath
import Derived.Deep.RegionWith
namespace Go.Proofs.YtlfjkbghgfljaaaDoor
open Go.RowKit

/-- two types in their boxes, and the result's block -/
def BxJ (w w1 : World) (x y x2 y2 p q : Value) : Prop := Blk2 w1 w.heap.size x y ∧ Blk2 w1 (w.heap.size + 1) x2 y2 ∧ Blk2 w1 (w.heap.size + 2) p q ∧ w.heap.size + 2 < w1.heap.size ∧ Below w.heap.size w w1
theorem BxJ.new (w : World) (x y x2 y2 p q : Value) (t t2 t3 : TypeId) : BxJ w (((w.alloc (.cells #[x, y] t)).alloc (.cells #[x2, y2] t2)).alloc (.cells #[p, q] t3)) x y x2 y2 p q := by
  have b1 : Below w.heap.size w (w.alloc (.cells #[x, y] t)) := (Below.refl _ _).alloc (Nat.le_refl _) _
  have b2 : Below w.heap.size w ((w.alloc (.cells #[x, y] t)).alloc (.cells #[x2, y2] t2)) := b1.alloc (by simp) _
  have b3 : Below w.heap.size w (((w.alloc (.cells #[x, y] t)).alloc (.cells #[x2, y2] t2)).alloc (.cells #[p, q] t3)) := b2.alloc (by simp; omega) _
  refine ⟨((Blk2.new w _ x y t rfl).alloc (by simp) _).alloc (by simp; omega) _, (Blk2.new _ _ x2 y2 t2 (by simp)).alloc (by simp) _, Blk2.new _ _ p q t3 (by simp), by simp, b3⟩
theorem Blk2.drew {w : World} {b : Nat} {x y : Value} (h : Blk2 w b x y) : Blk2 w.drew b x y := h.below ((Below.refl (b + 1) w).drew) (by omega)
theorem BxJ.step {w w1 w2 : World} {x y x2 y2 p q : Value} (h : BxJ w w1 x y x2 y2 p q) (hb : Below w1.heap.size w1 w2) : BxJ w w2 x y x2 y2 p q := by
  obtain ⟨h1, h2, h3, h4, h5⟩ := h
  have := hb.size
  exact ⟨h1.below hb (by omega), h2.below hb (by omega), h3.below hb h4, by omega, h5.trans (hb.mono (by omega))⟩
set_option maxHeartbeats 400000 in
theorem room_exact (k m : Int) (w : World) : Calls Tryd.prog 32 #[TT k m] w fun e w' => e = .returned (.int .i64 (roomT k m)) ∧ w' = w.alloc (.cells #[.int .i64 k, .int .i64 m] 23) := by
  rcases roomT_cases k m with ⟨rfl, hv⟩ | ⟨rfl, hv⟩ | ⟨h1, h2, hv⟩
  all_goals
    have Hv := Lib.hid hv; clear hv
    go_enter Tryd.func32, Tryd.ntmps32
    go_wp2_with fail
    go_ret
    exact ⟨by rw [Hv.out]; rfl, rfl⟩

/-- what Join returns -/
def jR (v : Value) (b : Bool) : Value := .tuple #[v, .bool b]
def joinR (k m k2 m2 : Int) : Value :=
  bif rightT k m then bif rightT k2 m2 then bif decide (k2 ≤ k) then bif numK k then jR (TT k 0) true else jR (TT k (max (roomT k m) (roomT k2 m2))) true
    else bif numK k2 then jR (TT k2 0) true else jR (TT k2 (max (roomT k m) (roomT k2 m2))) true
  else jR (TT 0 0) false else jR (TT 0 0) false
theorem joinR_yes (k m k2 m2 : Int) (h1 : rightT k m = true) (h2 : rightT k2 m2 = true) : joinR k m k2 m2 = jR (TT (joinK k k2) (joinM k m k2 m2)) true := by
  unfold joinR joinM joinK
  rw [h1, h2]
  by_cases h : k2 ≤ k
  · have d : decide (k2 ≤ k) = true := by simpa using h
    rw [d, if_pos h]
    cases numK k <;> rfl
  · have d : decide (k2 ≤ k) = false := by simpa using h
    rw [d, if_neg h]
    cases numK k2 <;> rfl
theorem joinR_no (k m k2 m2 : Int) (h : rightT k m = false ∨ rightT k2 m2 = false) : joinR k m k2 m2 = jR (TT 0 0) false := by
  unfold joinR
  rcases h with h | h
  · rw [h]; rfl
  · rw [h]; cases rightT k m <;> rfl
set_option maxRecDepth 100000 in
set_option maxHeartbeats 3200000 in
theorem tjoin_any (k m k2 m2 : Int) (w : World) : Calls Tryd.prog 16 #[TT k m, TT k2 m2] w fun e w' => e = .returned (joinR k m k2 m2) ∧ Below w.heap.size w w' := by
  have HR1 := Lib.hid (fun w => tright_any k m w)
  have HR2 := Lib.hid (fun w => tright_any k2 m2 w)
  have HC := Lib.hid (fun w => reach_any k k2 w)
  have HN1 := Lib.hid (fun w => isnum_any k w)
  have HN2 := Lib.hid (fun w => isnum_any k2 w)
  have Hv : Hid (joinR k m k2 m2 = bif rightT k m then bif rightT k2 m2 then bif decide (k2 ≤ k) then bif numK k then jR (TT k 0) true else jR (TT k (max (roomT k m) (roomT k2 m2))) true
    else bif numK k2 then jR (TT k2 0) true else jR (TT k2 (max (roomT k m) (roomT k2 m2))) true
    else jR (TT 0 0) false else jR (TT 0 0) false) := rfl
  generalize rightT k m = a at HR1 Hv
  generalize rightT k2 m2 = b at HR2 Hv
  generalize decide (k2 ≤ k) = c at HC Hv
  generalize numK k = d at HN1 Hv
  generalize numK k2 = d2 at HN2 Hv
  cases a
  · go_enter Tryd.func16, Tryd.ntmps16
    go_wp2_with fail
    refine (HR1.out _).mono ?_
    rintro e w1 ⟨rfl, hb1⟩
    have HB := Lib.hid ((BxJ.new w _ _ _ _ _ _ _ _ _).step hb1)
    clear hb1
    obtain ⟨⟨c0, c1, _⟩, ⟨d0, d1, _⟩, ⟨e0, e1, f0, f1⟩, _, hb'⟩ := HB.out
    go_wp2_with fail
    try simp only [Exit.inBlock, Exit.then]
    refine bodyPost_ret (results_t2 rfl _ _ rfl HB.out.2.2.1.set2) rfl ?_
    exact ⟨by rw [Hv.out]; rfl, by go_grown⟩
  cases b
  · go_enter Tryd.func16, Tryd.ntmps16
    go_wp2_with fail
    refine (HR1.out _).mono ?_
    rintro e w1 ⟨rfl, hb1⟩
    have HB := Lib.hid ((BxJ.new w _ _ _ _ _ _ _ _ _).step hb1)
    clear hb1
    obtain ⟨⟨c0, c1, _⟩, ⟨d0, d1, _⟩, _⟩ := HB.out
    go_wp2_with fail
    refine (HR2.out _).mono ?_
    rintro e w2 ⟨rfl, hb2⟩
    have HB2 := Lib.hid (HB.out.step hb2)
    clear hb2 c0 c1 d0 d1
    obtain ⟨⟨c0, c1, _⟩, ⟨d0, d1, _⟩, ⟨e0, e1, f0, f1⟩, _, hb'⟩ := HB2.out
    go_wp2_with fail
    try simp only [Exit.inBlock, Exit.then]
    refine bodyPost_ret (results_t2 rfl _ _ rfl HB2.out.2.2.1.set2) rfl ?_
    exact ⟨by rw [Hv.out]; rfl, by go_grown⟩
  cases c
  · cases d2
    · go_enter Tryd.func16, Tryd.ntmps16
      go_wp2_with fail
      refine (HR1.out _).mono ?_
      rintro e w1 ⟨rfl, hb1⟩
      have HB := Lib.hid ((BxJ.new w _ _ _ _ _ _ _ _ _).step hb1)
      clear hb1
      obtain ⟨⟨c0, c1, _⟩, ⟨d0, d1, _⟩, _⟩ := HB.out
      go_wp2_with fail
      refine (HR2.out _).mono ?_
      rintro e w2 ⟨rfl, hb2⟩
      have HB2 := Lib.hid (HB.out.step hb2)
      clear hb2 c0 c1 d0 d1
      obtain ⟨⟨c0, c1, _⟩, ⟨d0, d1, _⟩, ⟨e0, e1, f0, f1⟩, hlt, hb'⟩ := HB2.out
      go_wp2_with fail
      refine (HC.out _).mono ?_
      rintro e w3 ⟨rfl, rfl⟩
      go_wp2_with fail
      refine (HN2.out _).mono ?_
      rintro e w3 ⟨rfl, rfl⟩
      go_wp2_with fail
      have A0 : ∀ o, (w2.alloc o).cell? ⟨w.heap.size + 1, 0, none⟩ = some (.int .i64 k2) := fun o => ((HB2.out.2.1).alloc (by omega) o).1
      have A1 : ∀ o, (w2.alloc o).cell? ⟨w.heap.size + 1, 1, none⟩ = some (.int .i64 m2) := fun o => ((HB2.out.2.1).alloc (by omega) o).2.1
      have A2 : ∀ o o', ((w2.alloc o).alloc o').cell? ⟨w.heap.size + 2, 0, none⟩ = some (.int .i64 0) := fun o o' => (((HB2.out.2.2.1).alloc (by omega) o).alloc (by simp; omega) o').1
      have A3 : ∀ o o', ((w2.alloc o).alloc o').cell? ⟨w.heap.size + 2, 1, none⟩ = some (.int .i64 0) := fun o o' => (((HB2.out.2.2.1).alloc (by omega) o).alloc (by simp; omega) o').2.1
      have A4 : ∀ o o', ((w2.alloc o).alloc o').frozen? ⟨w.heap.size + 2, 0, none⟩ = false := fun o o' => (((HB2.out.2.2.1).alloc (by omega) o).alloc (by simp; omega) o').2.2.1
      have A5 : ∀ o o', ((w2.alloc o).alloc o').frozen? ⟨w.heap.size + 2, 1, none⟩ = false := fun o o' => (((HB2.out.2.2.1).alloc (by omega) o).alloc (by simp; omega) o').2.2.2
      go_region_with (go_at_call 32; refine (room_exact _ _ _).mono ?_; rintro e wx ⟨rfl, rfl⟩)
      all_goals
        go_wp2_with fail
        all_goals
          try simp only [Exit.inBlock, Exit.then]
          refine bodyPost_ret (results_t2 rfl _ _ rfl (((HB2.out.2.2.1).alloc (by omega) _).alloc (by simp; omega) _).set2.drew) rfl ?_
          refine ⟨?_, by go_grown⟩
          rw [Hv.out]
          first
            | (rw [Int.max_eq_left h]; rfl)
            | (rw [Int.max_eq_right (Int.le_of_lt h)]; rfl)
    · go_enter Tryd.func16, Tryd.ntmps16
      go_wp2_with fail
      refine (HR1.out _).mono ?_
      rintro e w1 ⟨rfl, hb1⟩
      have HB := Lib.hid ((BxJ.new w _ _ _ _ _ _ _ _ _).step hb1)
      clear hb1
      obtain ⟨⟨c0, c1, _⟩, ⟨d0, d1, _⟩, _⟩ := HB.out
      go_wp2_with fail
      refine (HR2.out _).mono ?_
      rintro e w2 ⟨rfl, hb2⟩
      have HB2 := Lib.hid (HB.out.step hb2)
      clear hb2 c0 c1 d0 d1
      obtain ⟨⟨c0, c1, _⟩, ⟨d0, d1, _⟩, ⟨e0, e1, f0, f1⟩, hlt, hb'⟩ := HB2.out
      go_wp2_with fail
      refine (HC.out _).mono ?_
      rintro e w3 ⟨rfl, rfl⟩
      go_wp2_with fail
      refine (HN2.out _).mono ?_
      rintro e w3 ⟨rfl, rfl⟩
      go_wp2_with fail
      try simp only [Exit.inBlock, Exit.then]
      refine bodyPost_ret (results_t2 rfl _ _ rfl HB2.out.2.2.1.set2) rfl ?_
      exact ⟨by rw [Hv.out]; rfl, by go_grown⟩
  · cases d
    · go_enter Tryd.func16, Tryd.ntmps16
      go_wp2_with fail
      refine (HR1.out _).mono ?_
      rintro e w1 ⟨rfl, hb1⟩
      have HB := Lib.hid ((BxJ.new w _ _ _ _ _ _ _ _ _).step hb1)
      clear hb1
      obtain ⟨⟨c0, c1, _⟩, ⟨d0, d1, _⟩, _⟩ := HB.out
      go_wp2_with fail
      refine (HR2.out _).mono ?_
      rintro e w2 ⟨rfl, hb2⟩
      have HB2 := Lib.hid (HB.out.step hb2)
      clear hb2 c0 c1 d0 d1
      obtain ⟨⟨c0, c1, _⟩, ⟨d0, d1, _⟩, ⟨e0, e1, f0, f1⟩, hlt, hb'⟩ := HB2.out
      go_wp2_with fail
      refine (HC.out _).mono ?_
      rintro e w3 ⟨rfl, rfl⟩
      go_wp2_with fail
      refine (HN1.out _).mono ?_
      rintro e w3 ⟨rfl, rfl⟩
      go_wp2_with fail
      have A0 : ∀ o, (w2.alloc o).cell? ⟨w.heap.size + 1, 0, none⟩ = some (.int .i64 k2) := fun o => ((HB2.out.2.1).alloc (by omega) o).1
      have A1 : ∀ o, (w2.alloc o).cell? ⟨w.heap.size + 1, 1, none⟩ = some (.int .i64 m2) := fun o => ((HB2.out.2.1).alloc (by omega) o).2.1
      have A2 : ∀ o o', ((w2.alloc o).alloc o').cell? ⟨w.heap.size + 2, 0, none⟩ = some (.int .i64 0) := fun o o' => (((HB2.out.2.2.1).alloc (by omega) o).alloc (by simp; omega) o').1
      have A3 : ∀ o o', ((w2.alloc o).alloc o').cell? ⟨w.heap.size + 2, 1, none⟩ = some (.int .i64 0) := fun o o' => (((HB2.out.2.2.1).alloc (by omega) o).alloc (by simp; omega) o').2.1
      have A4 : ∀ o o', ((w2.alloc o).alloc o').frozen? ⟨w.heap.size + 2, 0, none⟩ = false := fun o o' => (((HB2.out.2.2.1).alloc (by omega) o).alloc (by simp; omega) o').2.2.1
      have A5 : ∀ o o', ((w2.alloc o).alloc o').frozen? ⟨w.heap.size + 2, 1, none⟩ = false := fun o o' => (((HB2.out.2.2.1).alloc (by omega) o).alloc (by simp; omega) o').2.2.2
      go_region_with (go_at_call 32; refine (room_exact _ _ _).mono ?_; rintro e wx ⟨rfl, rfl⟩)
      all_goals
        go_wp2_with fail
        all_goals
          try simp only [Exit.inBlock, Exit.then]
          refine bodyPost_ret (results_t2 rfl _ _ rfl (((HB2.out.2.2.1).alloc (by omega) _).alloc (by simp; omega) _).set2.drew) rfl ?_
          refine ⟨?_, by go_grown⟩
          rw [Hv.out]
          first
            | (rw [Int.max_eq_left h]; rfl)
            | (rw [Int.max_eq_right (Int.le_of_lt h)]; rfl)
    · go_enter Tryd.func16, Tryd.ntmps16
      go_wp2_with fail
      refine (HR1.out _).mono ?_
      rintro e w1 ⟨rfl, hb1⟩
      have HB := Lib.hid ((BxJ.new w _ _ _ _ _ _ _ _ _).step hb1)
      clear hb1
      obtain ⟨⟨c0, c1, _⟩, ⟨d0, d1, _⟩, _⟩ := HB.out
      go_wp2_with fail
      refine (HR2.out _).mono ?_
      rintro e w2 ⟨rfl, hb2⟩
      have HB2 := Lib.hid (HB.out.step hb2)
      clear hb2 c0 c1 d0 d1
      obtain ⟨⟨c0, c1, _⟩, ⟨d0, d1, _⟩, ⟨e0, e1, f0, f1⟩, hlt, hb'⟩ := HB2.out
      go_wp2_with fail
      refine (HC.out _).mono ?_
      rintro e w3 ⟨rfl, rfl⟩
      go_wp2_with fail
      refine (HN1.out _).mono ?_
      rintro e w3 ⟨rfl, rfl⟩
      go_wp2_with fail
      try simp only [Exit.inBlock, Exit.then]
      refine bodyPost_ret (results_t2 rfl _ _ rfl HB2.out.2.2.1.set2) rfl ?_
      exact ⟨by rw [Hv.out]; rfl, by go_grown⟩
end Go.Proofs.YtlfjkbghgfljaaaDoor
