/-
  Contracts of package typ's Wide and of the document's own.
-/
import Derived.Test.YtlfjkbghgfljaaaDoorTypC
namespace Go.Proofs.YtlfjkbghgfljaaaDoor
open Go.RowKit

/-- two types of the call's own in their boxes, the first things that the call made -/
def Bx (w w1 : World) (x y x2 y2 : Value) : Prop := Blk2 w1 w.heap.size x y ∧ Blk2 w1 (w.heap.size + 1) x2 y2 ∧ w.heap.size + 1 < w1.heap.size ∧ Below w.heap.size w w1
theorem Bx.new (w : World) (x y x2 y2 : Value) (t t2 : TypeId) : Bx w ((w.alloc (.cells #[x, y] t)).alloc (.cells #[x2, y2] t2)) x y x2 y2 :=
  ⟨(Blk2.new w _ x y t rfl).alloc (by simp) _, Blk2.new _ _ x2 y2 t2 (by simp), by simp, ((Below.refl _ _).alloc (Nat.le_refl _) _).alloc (by simp) _⟩
theorem Bx.step {w w1 w2 : World} {x y x2 y2 : Value} (h : Bx w w1 x y x2 y2) (hb : Below w1.heap.size w1 w2) : Bx w w2 x y x2 y2 := by
  obtain ⟨a, b, c, d⟩ := h
  have := hb.size
  exact ⟨a.below hb (by omega), b.below hb c, by omega, d.trans (hb.mono (by omega))⟩

theorem below_of_same {P : Program} {f : FuncId} {args : Array Value} {w : World} {v : Ending} (h : Calls P f args w fun e w' => e = v ∧ w = w') : Calls P f args w fun e w' => e = v ∧ Below w.heap.size w w' :=
  h.mono fun _ _ ⟨he, hw⟩ => ⟨he, hw ▸ Below.refl _ _⟩

/-- is the first as wide as the second? -/
def wideT (k m k2 m2 : Int) : Bool := rightT k m && rightT k2 m2 && decide (k2 ≤ k) && (numK k || decide (roomT k2 m2 ≤ m))
set_option maxRecDepth 100000 in
set_option maxHeartbeats 1600000 in
theorem twide_any (k m k2 m2 : Int) (w : World) : Calls Tryd.prog 14 #[TT k m, TT k2 m2] w fun e w' => e = .returned (.bool (wideT k m k2 m2)) ∧ Below w.heap.size w w' := by
  have HR1 := Lib.hid (fun w => tright_any k m w)
  have HR2 := Lib.hid (fun w => tright_any k2 m2 w)
  have HC := Lib.hid (fun w => reach_any k k2 w)
  have HN := Lib.hid (fun w => isnum_any k w)
  have HO := Lib.hid (fun w => room_any k2 m2 w)
  have Hv : Hid (wideT k m k2 m2 = (rightT k m && rightT k2 m2 && decide (k2 ≤ k) && (numK k || decide (roomT k2 m2 ≤ m)))) := rfl
  generalize rightT k m = a at HR1 Hv
  generalize rightT k2 m2 = b at HR2 Hv
  generalize decide (k2 ≤ k) = c at HC Hv
  generalize numK k = d at HN Hv
  generalize roomT k2 m2 = r at HO Hv
  generalize hd : decide (r ≤ m) = z at Hv
  cases a
  · go_enter Tryd.func14, Tryd.ntmps14
    go_wp2_with fail
    refine (HR1.out _).mono ?_
    rintro e w1 ⟨rfl, hb1⟩
    have HB := Lib.hid ((Bx.new w _ _ _ _ _ _).step hb1)
    clear hb1
    go_wp2_with fail
    go_ret
    exact ⟨by rw [Hv.out]; rfl, HB.out.2.2.2⟩
  cases b
  · go_enter Tryd.func14, Tryd.ntmps14
    go_wp2_with fail
    refine (HR1.out _).mono ?_
    rintro e w1 ⟨rfl, hb1⟩
    have HB := Lib.hid ((Bx.new w _ _ _ _ _ _).step hb1)
    obtain ⟨⟨c0, c1, _⟩, ⟨d0, d1, _⟩, _⟩ := HB.out
    clear hb1
    go_wp2_with fail
    refine (HR2.out _).mono ?_
    rintro e w2 ⟨rfl, hb2⟩
    have HB2 := Lib.hid (HB.out.step hb2)
    clear hb2 c0 c1 d0 d1
    go_wp2_with fail
    go_ret
    exact ⟨by rw [Hv.out]; rfl, HB2.out.2.2.2⟩
  cases c
  · go_enter Tryd.func14, Tryd.ntmps14
    go_wp2_with fail
    refine (HR1.out _).mono ?_
    rintro e w1 ⟨rfl, hb1⟩
    have HB := Lib.hid ((Bx.new w _ _ _ _ _ _).step hb1)
    obtain ⟨⟨c0, c1, _⟩, ⟨d0, d1, _⟩, _⟩ := HB.out
    clear hb1
    go_wp2_with fail
    refine (HR2.out _).mono ?_
    rintro e w2 ⟨rfl, hb2⟩
    have HB2 := Lib.hid (HB.out.step hb2)
    clear hb2 c0 c1 d0 d1
    obtain ⟨⟨c0, c1, _⟩, ⟨d0, d1, _⟩, _⟩ := HB2.out
    go_wp2_with fail
    refine (HC.out _).mono ?_
    rintro e w3 ⟨rfl, rfl⟩
    go_wp2_with fail
    go_ret
    exact ⟨by rw [Hv.out]; rfl, HB2.out.2.2.2⟩
  cases d
  · go_enter Tryd.func14, Tryd.ntmps14
    go_wp2_with fail
    refine (HR1.out _).mono ?_
    rintro e w1 ⟨rfl, hb1⟩
    have HB := Lib.hid ((Bx.new w _ _ _ _ _ _).step hb1)
    obtain ⟨⟨c0, c1, _⟩, ⟨d0, d1, _⟩, _⟩ := HB.out
    clear hb1
    go_wp2_with fail
    refine (HR2.out _).mono ?_
    rintro e w2 ⟨rfl, hb2⟩
    have HB2 := Lib.hid (HB.out.step hb2)
    clear hb2 c0 c1 d0 d1
    obtain ⟨⟨c0, c1, _⟩, ⟨d0, d1, _⟩, hlt, _⟩ := HB2.out
    go_wp2_with fail
    refine (HC.out _).mono ?_
    rintro e w3 ⟨rfl, rfl⟩
    go_wp2_with fail
    have hne : Nonempty (BelowBy w2.heap.size w2) := ⟨⟨w2, Below.refl _ _⟩⟩
    have C0 : ∀ p : BelowBy w2.heap.size w2, p.x.cell? ⟨w.heap.size, 0, none⟩ = some (.int .i64 k) := fun p => (p.h.cell (by simp; omega)).trans c0
    have C1 : ∀ p : BelowBy w2.heap.size w2, p.x.cell? ⟨w.heap.size, 1, none⟩ = some (.int .i64 m) := fun p => (p.h.cell (by simp; omega)).trans c1
    have D0 : ∀ p : BelowBy w2.heap.size w2, p.x.cell? ⟨w.heap.size + 1, 0, none⟩ = some (.int .i64 k2) := fun p => (p.h.cell (by simp; omega)).trans d0
    have D1 : ∀ p : BelowBy w2.heap.size w2, p.x.cell? ⟨w.heap.size + 1, 1, none⟩ = some (.int .i64 m2) := fun p => (p.h.cell (by simp; omega)).trans d1
    clear c0 c1 d0 d1
    refine wp_region_below w2.heap.size (by kernel_rfl) (by kernel_rfl) ?_
    repeat (
      with_reducible refine wpQuiet_step (fun K hK => ?_)
      go_simp
      refine hK _ ?_
      clear hK K)
    with_reducible refine wpQuiet_step (fun K hK => ?_)
    go_simp
    apply Exists.intro
    refine ⟨fun p => ?_, hK _ ?_⟩
    exact (below_of_same (HN.out _)).mono fun e w5 ⟨he, hb⟩ => ⟨he, p.step (Nat.le_refl _) hb⟩
    clear hK K
    repeat (
      with_reducible refine wpQuiet_step (fun K hK => ?_)
      go_simp
      refine hK _ ?_
      clear hK K)
    with_reducible refine wpQuiet_step (fun K hK => ?_)
    go_simp
    apply Exists.intro
    refine ⟨fun p => ?_, hK _ ?_⟩
    exact (HO.out _).mono fun e w5 ⟨he, hb⟩ => ⟨he, p.step (Nat.le_refl _) hb⟩
    clear hK K
    repeat (
      with_reducible refine wpQuiet_step (fun K hK => ?_)
      go_simp
      refine hK _ ?_
      clear hK K)
    refine wpQuiet_nil ?_
    rintro _ ⟨p, rfl⟩
    go_wp2_with fail
    go_ret
    exact ⟨by rw [Hv.out]; rfl, HB2.out.2.2.2.trans (p.h.mono HB2.out.2.2.2.size)⟩
  · go_enter Tryd.func14, Tryd.ntmps14
    go_wp2_with fail
    refine (HR1.out _).mono ?_
    rintro e w1 ⟨rfl, hb1⟩
    have HB := Lib.hid ((Bx.new w _ _ _ _ _ _).step hb1)
    obtain ⟨⟨c0, c1, _⟩, ⟨d0, d1, _⟩, _⟩ := HB.out
    clear hb1
    go_wp2_with fail
    refine (HR2.out _).mono ?_
    rintro e w2 ⟨rfl, hb2⟩
    have HB2 := Lib.hid (HB.out.step hb2)
    clear hb2 c0 c1 d0 d1
    obtain ⟨⟨c0, c1, _⟩, ⟨d0, d1, _⟩, hlt, _⟩ := HB2.out
    go_wp2_with fail
    refine (HC.out _).mono ?_
    rintro e w3 ⟨rfl, rfl⟩
    go_wp2_with fail
    have hne : Nonempty (BelowBy w2.heap.size w2) := ⟨⟨w2, Below.refl _ _⟩⟩
    have C0 : ∀ p : BelowBy w2.heap.size w2, p.x.cell? ⟨w.heap.size, 0, none⟩ = some (.int .i64 k) := fun p => (p.h.cell (by simp; omega)).trans c0
    clear c0 c1 d0 d1
    refine wp_region_below w2.heap.size (by kernel_rfl) (by kernel_rfl) ?_
    repeat (
      with_reducible refine wpQuiet_step (fun K hK => ?_)
      go_simp
      refine hK _ ?_
      clear hK K)
    with_reducible refine wpQuiet_step (fun K hK => ?_)
    go_simp
    apply Exists.intro
    refine ⟨fun p => ?_, hK _ ?_⟩
    exact (below_of_same (HN.out _)).mono fun e w5 ⟨he, hb⟩ => ⟨he, p.step (Nat.le_refl _) hb⟩
    clear hK K
    repeat (
      with_reducible refine wpQuiet_step (fun K hK => ?_)
      go_simp
      refine hK _ ?_
      clear hK K)
    refine wpQuiet_nil ?_
    rintro _ ⟨p, rfl⟩
    go_wp2_with fail
    go_ret
    exact ⟨by rw [Hv.out]; rfl, HB2.out.2.2.2.trans (p.h.mono HB2.out.2.2.2.size)⟩
end Go.Proofs.YtlfjkbghgfljaaaDoor
