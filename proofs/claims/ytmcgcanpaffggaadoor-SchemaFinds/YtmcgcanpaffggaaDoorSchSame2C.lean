/-
  Contracts of package schema's SameTable and Same, and of the document's own SameCols, SameTable and Same.
-/
import Derived.Test.YtmcgcanpaffggaaDoorPart1
import Derived.Test.YtmcgcanpaffggaaDoorPart2
import Derived.Test.YtmcgcanpaffggaaDoorPart3
namespace Go.Proofs.YtmcgcanpaffggaaDoor
open Go.RowKit

set_option maxRecDepth 100000 in
set_option maxHeartbeats 1600000 in
theorem sametab_any (a b : Tb) (w : World) (hA : TabAt w w.heap.size a) (hB : TabAt w w.heap.size b) (hl : a.cols.length ≤ 1000000) (hl2 : b.cols.length ≤ 1000000) :
    Calls Tryd.prog 28 #[TV a, TV b] w fun e w' => e = .returned (.bool (sameT a b)) ∧ Below w.heap.size w w' := by
  have hk := Lib.hid (below_two w (.cells (fT a).toArray 29) (.cells (fT b).toArray 29))
  have HC := Lib.hid (eqfC_any a.A b.A a.cap b.cap a.cols b.cols 65 eqC _ (RowAt.to hA hk.out) (RowAt.to hB hk.out) hl hl2 entersSameC (fun x _ y _ w2 _ => sameC1_any x y w2))
  obtain ⟨x0, x1, x2, x3, x4⟩ := (BlkN.new w _ (fT a) 29 rfl).tab
  have e0 := fun o => keep_alloc x0 o
  have e1 := fun o => keep_alloc x1 o
  have e2 := fun o => keep_alloc x2 o
  have e3 := fun o => keep_alloc x3 o
  have e4 := fun o => keep_alloc x4 o
  clear x0 x1 x2 x3 x4 hA hB
  unfold fT at e0 e1 e2 e3 e4
  have Hv : Hid (sameT a b = ((a.id == b.id) && (eqS a.nm b.nm && ((a.key == b.key) && ((a.nx == b.nx) && tf (Pair eqC a.cols b.cols)))))) := rfl
  generalize h1 : (a.id == b.id) = b1 at Hv
  generalize hE : eqS a.nm b.nm = b2 at Hv
  have h2 : (a.nm.toList == b.nm.toList) = b2 := hE
  clear hE
  generalize h3 : (a.key == b.key) = b3 at Hv
  generalize h4 : (a.nx == b.nx) = b4 at Hv
  generalize tf (Pair eqC a.cols b.cols) = b5 at Hv HC
  cases b1
  · go_enter Tryd.func28, Tryd.ntmps28
    go_wp2_with fail
    go_ret
    exact ⟨by rw [Hv.out]; rfl, hk.out⟩
  cases b2
  · go_enter Tryd.func28, Tryd.ntmps28
    go_wp2_with fail
    go_ret
    exact ⟨by rw [Hv.out]; rfl, hk.out⟩
  cases b3
  · go_enter Tryd.func28, Tryd.ntmps28
    go_wp2_with fail
    go_ret
    exact ⟨by rw [Hv.out]; rfl, hk.out⟩
  cases b4
  · go_enter Tryd.func28, Tryd.ntmps28
    go_wp2_with fail
    go_ret
    exact ⟨by rw [Hv.out]; rfl, hk.out⟩
  · go_enter Tryd.func28, Tryd.ntmps28
    go_wp2_with fail
    refine HC.out.mono ?_
    rintro e w1 ⟨rfl, hb1⟩
    have Hb1 := Lib.hid (bthen hk.out hb1); clear hb1
    go_wp2_with fail
    go_ret
    exact ⟨by rw [Hv.out]; rfl, Hb1.out⟩
set_option maxRecDepth 100000 in
set_option maxHeartbeats 1600000 in
theorem rsamec_any (A A2 : Option Addr) (cp cp2 : Nat) (a b : List Cb) (w : World) (hA : ColsAt w w.heap.size A a) (hA2 : ColsAt w w.heap.size A2 b) (hl : a.length ≤ 1000000) (_hl2 : b.length ≤ 1000000) :
    Calls Tryd.prog 66 #[.slice A a.length cp, .slice A2 b.length cp2] w fun e w' => e = .returned (.bool (tf (Pair eqC a b))) ∧ Below w.heap.size w w' := by
  have HA := Lib.hid hA; clear hA
  have HA2 := Lib.hid hA2; clear hA2
  by_cases hlen : a.length = b.length
  · have hneq : ((a.length : Int) != (b.length : Int)) = false := by simp [hlen]
    have heql : ((a.length : Int) == (b.length : Int)) = true := by simp [hlen]
    have Hlen := Lib.hid hlen; clear hlen
    go_enter Tryd.func66, Tryd.ntmps66
    go_wp2_with fail
    go_loopw [5] (fun i wr => ∃ k : Nat, k ≤ a.length ∧ i = .int .i64 k ∧ Hid (∀ j x y, a[j]? = some x → b[j]? = some y → j < k → eqC x y = true) ∧ Hid (Below w.heap.size w wr)) (fun i _ => a.length - (intOf i).toNat)
    case atStart => exact ⟨0, by omega, rfl, fun j x y _ _ h => absurd h (by omega), Below.refl _ _⟩
    case round =>
      obtain ⟨k, hk, rfl, hall, hb⟩ := hrel
      by_cases hlt : k < a.length
      · have hlt2 : k < b.length := by have := Hlen.out; omega
        obtain ⟨x, hx⟩ : ∃ x, a[k]? = some x := ⟨a[k], by simp [hlt]⟩
        obtain ⟨y, hy⟩ : ∃ y, b[k]? = some y := ⟨b[k], by simp [hlt2]⟩
        have Hx := Lib.hid hx
        have Hy := Lib.hid hy
        obtain ⟨b1, off, rfl, hbB, c0, c1, c2, c3, c4, c5, c6, c7⟩ := ColsAt.get (RowAt.below HA.out hb.out) k x hx
        obtain ⟨b2, off2, rfl, hbB2, d0, d1, d2, d3, d4, d5, d6, d7⟩ := ColsAt.get (RowAt.below HA2.out hb.out) k y hy
        have hne : Nonempty (BelowBy wr.heap.size wr) := ⟨⟨wr, Below.refl _ _⟩⟩
        have X0 : ∀ p : BelowBy wr.heap.size wr, p.x.cell? ⟨b1, off + k * 8, none⟩ = some (.int .i64 x.id) := fun p => (p.h.cell (by have := hb.out.size; simp; omega)).trans c0
        have X1 : ∀ p : BelowBy wr.heap.size wr, p.x.cell? ⟨b1, off + k * 8 + 1, none⟩ = some (.string x.nm) := fun p => (p.h.cell (by have := hb.out.size; simp; omega)).trans c1
        have X2 : ∀ p : BelowBy wr.heap.size wr, p.x.cell? ⟨b1, off + k * 8 + 2, none⟩ = some (.int .i64 x.tk) := fun p => (p.h.cell (by have := hb.out.size; simp; omega)).trans c2
        have X3 : ∀ p : BelowBy wr.heap.size wr, p.x.cell? ⟨b1, off + k * 8 + 3, none⟩ = some (.int .i64 x.tm) := fun p => (p.h.cell (by have := hb.out.size; simp; omega)).trans c3
        have X4 : ∀ p : BelowBy wr.heap.size wr, p.x.cell? ⟨b1, off + k * 8 + 4, none⟩ = some (.bool x.nl) := fun p => (p.h.cell (by have := hb.out.size; simp; omega)).trans c4
        have X5 : ∀ p : BelowBy wr.heap.size wr, p.x.cell? ⟨b1, off + k * 8 + 5, none⟩ = some (.int .i64 x.dk) := fun p => (p.h.cell (by have := hb.out.size; simp; omega)).trans c5
        have X6 : ∀ p : BelowBy wr.heap.size wr, p.x.cell? ⟨b1, off + k * 8 + 6, none⟩ = some (.int .i64 x.dn) := fun p => (p.h.cell (by have := hb.out.size; simp; omega)).trans c6
        have X7 : ∀ p : BelowBy wr.heap.size wr, p.x.cell? ⟨b1, off + k * 8 + 7, none⟩ = some (.string x.ds) := fun p => (p.h.cell (by have := hb.out.size; simp; omega)).trans c7
        have Y0 : ∀ p : BelowBy wr.heap.size wr, p.x.cell? ⟨b2, off2 + k * 8, none⟩ = some (.int .i64 y.id) := fun p => (p.h.cell (by have := hb.out.size; simp; omega)).trans d0
        have Y1 : ∀ p : BelowBy wr.heap.size wr, p.x.cell? ⟨b2, off2 + k * 8 + 1, none⟩ = some (.string y.nm) := fun p => (p.h.cell (by have := hb.out.size; simp; omega)).trans d1
        have Y2 : ∀ p : BelowBy wr.heap.size wr, p.x.cell? ⟨b2, off2 + k * 8 + 2, none⟩ = some (.int .i64 y.tk) := fun p => (p.h.cell (by have := hb.out.size; simp; omega)).trans d2
        have Y3 : ∀ p : BelowBy wr.heap.size wr, p.x.cell? ⟨b2, off2 + k * 8 + 3, none⟩ = some (.int .i64 y.tm) := fun p => (p.h.cell (by have := hb.out.size; simp; omega)).trans d3
        have Y4 : ∀ p : BelowBy wr.heap.size wr, p.x.cell? ⟨b2, off2 + k * 8 + 4, none⟩ = some (.bool y.nl) := fun p => (p.h.cell (by have := hb.out.size; simp; omega)).trans d4
        have Y5 : ∀ p : BelowBy wr.heap.size wr, p.x.cell? ⟨b2, off2 + k * 8 + 5, none⟩ = some (.int .i64 y.dk) := fun p => (p.h.cell (by have := hb.out.size; simp; omega)).trans d5
        have Y6 : ∀ p : BelowBy wr.heap.size wr, p.x.cell? ⟨b2, off2 + k * 8 + 6, none⟩ = some (.int .i64 y.dn) := fun p => (p.h.cell (by have := hb.out.size; simp; omega)).trans d6
        have Y7 : ∀ p : BelowBy wr.heap.size wr, p.x.cell? ⟨b2, off2 + k * 8 + 7, none⟩ = some (.string y.ds) := fun p => (p.h.cell (by have := hb.out.size; simp; omega)).trans d7
        have q : ∀ w, (binOp .neq 37 (CV x) (CV y)).run Tryd.prog w = .ok (.bool (!eqC x y)) w := fun w => run_neq_C w x y
        have hk0 : (0 : Int) ≤ (k : Int) := by omega
        clear hx hy c0 c1 c2 c3 c4 c5 c6 c7 d0 d1 d2 d3 d4 d5 d6 d7
        cases hp : eqC x y
        · have Hno : Hid (tf (Pair eqC a b) = false) := pair_stop Hx.out Hy.out hp
          rw [hp] at q
          clear hp
          go_wp2_with fail
          refine wp_region_below wr.heap.size (by kernel_rfl) (by kernel_rfl) ?_
          repeat (
            with_reducible refine wpQuiet_step (fun K hK => ?_)
            go_simp
            refine hK _ ?_
            clear hK K)
          refine wpQuiet_nil ?_
          rintro _ ⟨p, rfl⟩
          go_wp2_with fail
          go_ret
          exact ⟨by rw [Hno.out]; rfl, bthen hb.out p.h⟩
        · have Hall : Hid (∀ j x y, a[j]? = some x → b[j]? = some y → j < k + 1 → eqC x y = true) := fun j x' y' hj hj2 hk => by
            by_cases e : j = k
            · subst e
              rw [Hx.out] at hj; cases hj
              rw [Hy.out] at hj2; cases hj2
              exact hp
            · exact hall.out j x' y' hj hj2 (by omega)
          rw [hp] at q
          clear hp
          go_wp2_with fail
          refine wp_region_below wr.heap.size (by kernel_rfl) (by kernel_rfl) ?_
          repeat (
            with_reducible refine wpQuiet_step (fun K hK => ?_)
            go_simp
            refine hK _ ?_
            clear hK K)
          refine wpQuiet_nil ?_
          rintro _ ⟨p, rfl⟩
          go_wp2_with fail
          go_roundw
          case rel => exact ⟨k + 1, by omega, by go_num, Hall.out, bthen hb.out p.h⟩
          case measure => simp [intOf]; omega
      · have Hyes : Hid (tf (Pair eqC a b) = true) := tf_yes ⟨Hlen.out, fun j x y hx hy => hall.out j x y hx hy (by have := (List.getElem?_eq_some_iff.1 hx).1; omega)⟩
        go_wp2_with fail
        go_ret
        exact ⟨by rw [Hyes.out]; rfl, hb.out⟩
  · have hneq : ((a.length : Int) != (b.length : Int)) = true := by simp; omega
    have heql : ((a.length : Int) == (b.length : Int)) = false := by simp; omega
    have Hno : Hid (tf (Pair eqC a b) = false) := tf_no fun h => hlen h.1
    clear hlen
    go_enter Tryd.func66, Tryd.ntmps66
    go_wp2_with fail
    go_ret
    exact ⟨by rw [Hno.out]; rfl, Below.refl _ _⟩
set_option maxRecDepth 100000 in
set_option maxHeartbeats 1600000 in
theorem rsametab_any (a b : Tb) (w : World) (hA : TabAt w w.heap.size a) (hB : TabAt w w.heap.size b) (hl : a.cols.length ≤ 1000000) (hl2 : b.cols.length ≤ 1000000) :
    Calls Tryd.prog 29 #[TV a, TV b] w fun e w' => e = .returned (.bool (sameT a b)) ∧ Below w.heap.size w w' := by
  have hk := Lib.hid (below_two w (.cells (fT a).toArray 29) (.cells (fT b).toArray 29))
  have HC := Lib.hid (rsamec_any a.A b.A a.cap b.cap a.cols b.cols _ (RowAt.to hA hk.out) (RowAt.to hB hk.out) hl hl2)
  obtain ⟨x0, x1, x2, x3, x4⟩ := (BlkN.new w _ (fT a) 29 rfl).tab
  have e0 := fun o => keep_alloc x0 o
  have e1 := fun o => keep_alloc x1 o
  have e2 := fun o => keep_alloc x2 o
  have e3 := fun o => keep_alloc x3 o
  have e4 := fun o => keep_alloc x4 o
  clear x0 x1 x2 x3 x4 hA hB
  unfold fT at e0 e1 e2 e3 e4
  have Hv : Hid (sameT a b = ((a.id == b.id) && (eqS a.nm b.nm && ((a.key == b.key) && ((a.nx == b.nx) && tf (Pair eqC a.cols b.cols)))))) := rfl
  generalize h1 : (a.id == b.id) = b1 at Hv
  generalize hE : eqS a.nm b.nm = b2 at Hv
  have h2 : (a.nm.toList == b.nm.toList) = b2 := hE
  clear hE
  generalize h3 : (a.key == b.key) = b3 at Hv
  generalize h4 : (a.nx == b.nx) = b4 at Hv
  generalize tf (Pair eqC a.cols b.cols) = b5 at Hv HC
  cases b1
  · go_enter Tryd.func29, Tryd.ntmps29
    go_wp2_with fail
    go_ret
    exact ⟨by rw [Hv.out]; rfl, hk.out⟩
  cases b2
  · go_enter Tryd.func29, Tryd.ntmps29
    go_wp2_with fail
    go_ret
    exact ⟨by rw [Hv.out]; rfl, hk.out⟩
  cases b3
  · go_enter Tryd.func29, Tryd.ntmps29
    go_wp2_with fail
    go_ret
    exact ⟨by rw [Hv.out]; rfl, hk.out⟩
  cases b4
  · go_enter Tryd.func29, Tryd.ntmps29
    go_wp2_with fail
    go_ret
    exact ⟨by rw [Hv.out]; rfl, hk.out⟩
  · go_enter Tryd.func29, Tryd.ntmps29
    go_wp2_with fail
    refine HC.out.mono ?_
    rintro e w1 ⟨rfl, hb1⟩
    have Hb1 := Lib.hid (bthen hk.out hb1); clear hb1
    go_wp2_with fail
    go_ret
    exact ⟨by rw [Hv.out]; rfl, Hb1.out⟩
theorem entersSameT : ∀ args w, (callFunc 28 args).run Tryd.prog w = .ok (.enter 28 args) w := Go.Proofs.enters_of Tryd.func28 (by kernel_rfl) rfl
set_option maxRecDepth 100000 in
theorem samecat_any (A A2 : Option Addr) (cp cp2 : Nat) (a b : List Tb) (w : World) (hA : TabsAt w w.heap.size A a) (hA2 : TabsAt w w.heap.size A2 b) (hl : a.length ≤ 1000000) (hl2 : b.length ≤ 1000000)
    (hw : ∀ t ∈ a, WfT t) (hw2 : ∀ t ∈ b, WfT t) :
    Calls Tryd.prog 22 #[.agg #[.slice A a.length cp], .agg #[.slice A2 b.length cp2]] w fun e w' => e = .returned (.bool (tf (Pair sameT a b))) ∧ Below w.heap.size w w' := by
  have hk := Lib.hid (below_two w (.cells #[.slice A a.length cp] 24) (.cells #[.slice A2 b.length cp2] 24))
  have HC := Lib.hid (eqfT_any A A2 cp cp2 a b 28 sameT _ (hA.to hk.out) (hA2.to hk.out) hl hl2 entersSameT (fun x hx y hy w2 hb2 => sametab_any x y w2 (((hA.to hk.out).to hb2).2 x hx) (((hA2.to hk.out).to hb2).2 y hy) (hw x hx).2.1 (hw2 y hy).2.1))
  clear hA hA2 hw hw2
  have e0 : ∀ o, ((w.alloc (.cells #[.slice A a.length cp] 24)).alloc o).cell? ⟨w.heap.size, 0, none⟩ = some (.slice A a.length cp) := fun o => keep_alloc (by simp) o
  go_enter Tryd.func22, Tryd.ntmps22
  go_wp2_with fail
  refine HC.out.mono ?_
  rintro e w1 ⟨rfl, hb1⟩
  have Hb1 := Lib.hid (bthen hk.out hb1); clear hb1
  go_wp2_with fail
  go_ret
  exact ⟨rfl, Hb1.out⟩
theorem box_two (w : World) (u v : Value) (ty : TypeId) : ∃ w0, (w.alloc (.cells #[u] ty)).alloc (.cells #[v] ty) = w0 ∧ Below w.heap.size w w0 ∧ w0.cell? ⟨w.heap.size, 0, none⟩ = some u ∧ w0.cell? ⟨w.heap.size + 1, 0, none⟩ = some v ∧ w0.heap.size = w.heap.size + 2 :=
  ⟨_, rfl, below_two w _ _, keep_alloc (by simp) _, by simp, by simp⟩
set_option maxRecDepth 100000 in
set_option maxHeartbeats 1600000 in
theorem rsamecat_any (A A2 : Option Addr) (cp cp2 : Nat) (a b : List Tb) (w : World) (hA : TabsAt w w.heap.size A a) (hA2 : TabsAt w w.heap.size A2 b) (hl : a.length ≤ 1000000) (_hl2 : b.length ≤ 1000000)
    (hw : ∀ t ∈ a, WfT t) (hw2 : ∀ t ∈ b, WfT t) :
    Calls Tryd.prog 23 #[.agg #[.slice A a.length cp], .agg #[.slice A2 b.length cp2]] w fun e w' => e = .returned (.bool (tf (Pair sameT a b))) ∧ Below w.heap.size w w' := by
  obtain ⟨w0, hw0, hb0, hU, hV, hs0⟩ := box_two w (.slice A a.length cp) (.slice A2 b.length cp2) 24
  have Hw0 := Lib.hid hw0
  have Hb0 := Lib.hid hb0
  have HA := Lib.hid (hA.to hb0); clear hA
  have HA2 := Lib.hid (hA2.to hb0); clear hA2 hb0
  have HU := Lib.hid hU; clear hU
  have HV := Lib.hid hV; clear hV
  have Hs0 := Lib.hid hs0; clear hs0 hw0
  have HW := Lib.hid hw; clear hw
  have HW2 := Lib.hid hw2; clear hw2
  have e0 : ∀ o, ((w.alloc (.cells #[.slice A a.length cp] 24)).alloc o).cell? ⟨w.heap.size, 0, none⟩ = some (.slice A a.length cp) := fun o => keep_alloc (by simp) o
  by_cases hlen : a.length = b.length
  · have hneq : ((a.length : Int) != (b.length : Int)) = false := by simp [hlen]
    have heql : ((a.length : Int) == (b.length : Int)) = true := by simp [hlen]
    have Hlen := Lib.hid hlen; clear hlen
    go_enter Tryd.func23, Tryd.ntmps23
    go_wp2_with fail
    rw [Hw0.out]
    clear e0
    go_loopw [5] (fun i wr => ∃ k : Nat, k ≤ a.length ∧ i = .int .i64 k ∧ Hid (∀ j x y, a[j]? = some x → b[j]? = some y → j < k → sameT x y = true) ∧ Hid (Below w0.heap.size w0 wr)) (fun i _ => a.length - (intOf i).toNat)
    case atStart => exact ⟨0, by omega, rfl, fun j x y _ _ h => absurd h (by omega), Below.refl _ _⟩
    case round =>
      obtain ⟨k, hk, rfl, hall, hb⟩ := hrel
      have Hbw := Lib.hid (bthen Hb0.out hb.out)
      have u0 : wr.cell? ⟨w.heap.size, 0, none⟩ = some (.slice A a.length cp) := (hb.out.cell (by have := Hs0.out; simp; omega)).trans HU.out
      by_cases hlt : k < a.length
      · have hlt2 : k < b.length := by have := Hlen.out; omega
        obtain ⟨x, hx⟩ : ∃ x, a[k]? = some x := ⟨a[k], by simp [hlt]⟩
        obtain ⟨y, hy⟩ : ∃ y, b[k]? = some y := ⟨b[k], by simp [hlt2]⟩
        have Hx := Lib.hid hx
        have Hy := Lib.hid hy
        obtain ⟨b1, off, hAe, hbB, c0, c1, c2, c3, c4⟩ := (HA.out.below hb.out).get k x hx
        obtain ⟨b2, off2, hAe2, hbB2, d0, d1, d2, d3, d4⟩ := (HA2.out.below hb.out).get k y hy
        have hne : Nonempty (BelowBy wr.heap.size wr) := ⟨⟨wr, Below.refl _ _⟩⟩
        have U0 : ∀ p : BelowBy wr.heap.size wr, p.x.cell? ⟨w.heap.size, 0, none⟩ = some (.slice (some ⟨b1, off, none⟩) a.length cp) := fun p => by rw [← hAe]; exact (p.h.cell (by have := Hs0.out; have := hb.out.size; simp; omega)).trans u0
        have V0 : ∀ p : BelowBy wr.heap.size wr, p.x.cell? ⟨w.heap.size + 1, 0, none⟩ = some (.slice (some ⟨b2, off2, none⟩) b.length cp2) := fun p => by rw [← hAe2]; exact (p.h.cell (by have := Hs0.out; have := hb.out.size; simp; omega)).trans ((hb.out.cell (by have := Hs0.out; simp; omega)).trans HV.out)
        clear hAe hAe2
        have X0 : ∀ p : BelowBy wr.heap.size wr, p.x.cell? ⟨b1, off + k * 5, none⟩ = some (.int .i64 x.id) := fun p => (p.h.cell (by have := hb.out.size; simp; omega)).trans c0
        have X1 : ∀ p : BelowBy wr.heap.size wr, p.x.cell? ⟨b1, off + k * 5 + 1, none⟩ = some (.string x.nm) := fun p => (p.h.cell (by have := hb.out.size; simp; omega)).trans c1
        have X2 : ∀ p : BelowBy wr.heap.size wr, p.x.cell? ⟨b1, off + k * 5 + 2, none⟩ = some (.int .i64 x.key) := fun p => (p.h.cell (by have := hb.out.size; simp; omega)).trans c2
        have X3 : ∀ p : BelowBy wr.heap.size wr, p.x.cell? ⟨b1, off + k * 5 + 3, none⟩ = some (.int .i64 x.nx) := fun p => (p.h.cell (by have := hb.out.size; simp; omega)).trans c3
        have X4 : ∀ p : BelowBy wr.heap.size wr, p.x.cell? ⟨b1, off + k * 5 + 4, none⟩ = some (.slice x.A x.cols.length x.cap) := fun p => (p.h.cell (by have := hb.out.size; simp; omega)).trans c4
        have Y0 : ∀ p : BelowBy wr.heap.size wr, p.x.cell? ⟨b2, off2 + k * 5, none⟩ = some (.int .i64 y.id) := fun p => (p.h.cell (by have := hb.out.size; simp; omega)).trans d0
        have Y1 : ∀ p : BelowBy wr.heap.size wr, p.x.cell? ⟨b2, off2 + k * 5 + 1, none⟩ = some (.string y.nm) := fun p => (p.h.cell (by have := hb.out.size; simp; omega)).trans d1
        have Y2 : ∀ p : BelowBy wr.heap.size wr, p.x.cell? ⟨b2, off2 + k * 5 + 2, none⟩ = some (.int .i64 y.key) := fun p => (p.h.cell (by have := hb.out.size; simp; omega)).trans d2
        have Y3 : ∀ p : BelowBy wr.heap.size wr, p.x.cell? ⟨b2, off2 + k * 5 + 3, none⟩ = some (.int .i64 y.nx) := fun p => (p.h.cell (by have := hb.out.size; simp; omega)).trans d3
        have Y4 : ∀ p : BelowBy wr.heap.size wr, p.x.cell? ⟨b2, off2 + k * 5 + 4, none⟩ = some (.slice y.A y.cols.length y.cap) := fun p => (p.h.cell (by have := hb.out.size; simp; omega)).trans d4
        have HS := Lib.hid (fun w' (hb' : Below wr.heap.size wr w') => rsametab_any x y w' (((HA.out.to hb.out).to hb').2 x (List.mem_of_getElem? hx)) (((HA2.out.to hb.out).to hb').2 y (List.mem_of_getElem? hy)) (HW.out x (List.mem_of_getElem? hx)).2.1 (HW2.out y (List.mem_of_getElem? hy)).2.1)
        clear hx hy c0 c1 c2 c3 c4 d0 d1 d2 d3 d4
        cases hp : sameT x y
        · have Hno : Hid (tf (Pair sameT a b) = false) := pair_stop Hx.out Hy.out hp
          rw [hp] at HS
          clear hp
          go_wp2_with fail
          refine wp_region_below wr.heap.size (by kernel_rfl) (by kernel_rfl) ?_
          repeat (
            with_reducible refine wpQuiet_step (fun K hK => ?_)
            go_simp
            refine hK _ ?_
            clear hK K)
          with_reducible refine wpQuiet_step (fun K hK => ?_)
          go_simp
          apply Exists.intro
          refine ⟨fun p => ?_, hK _ ?_⟩
          exact (HS.out _ p.h).mono fun e w5 ⟨he, hb⟩ => ⟨he, p.step (Nat.le_refl _) hb⟩
          clear hK K
          repeat (
            with_reducible refine wpQuiet_step (fun K hK => ?_)
            go_simp
            refine hK _ ?_
            clear hK K)
          refine wpQuiet_nil ?_
          rintro _ ⟨p, rfl⟩
          go_wp2_with fail
          go_ret
          exact ⟨by rw [Hno.out]; rfl, bthen Hbw.out p.h⟩
        · have Hall : Hid (∀ j x y, a[j]? = some x → b[j]? = some y → j < k + 1 → sameT x y = true) := fun j x' y' hj hj2 hk => by
            by_cases e : j = k
            · subst e
              rw [Hx.out] at hj; cases hj
              rw [Hy.out] at hj2; cases hj2
              exact hp
            · exact hall.out j x' y' hj hj2 (by omega)
          rw [hp] at HS
          clear hp
          go_wp2_with fail
          refine wp_region_below wr.heap.size (by kernel_rfl) (by kernel_rfl) ?_
          repeat (
            with_reducible refine wpQuiet_step (fun K hK => ?_)
            go_simp
            refine hK _ ?_
            clear hK K)
          with_reducible refine wpQuiet_step (fun K hK => ?_)
          go_simp
          apply Exists.intro
          refine ⟨fun p => ?_, hK _ ?_⟩
          exact (HS.out _ p.h).mono fun e w5 ⟨he, hb⟩ => ⟨he, p.step (Nat.le_refl _) hb⟩
          clear hK K
          repeat (
            with_reducible refine wpQuiet_step (fun K hK => ?_)
            go_simp
            refine hK _ ?_
            clear hK K)
          refine wpQuiet_nil ?_
          rintro _ ⟨p, rfl⟩
          go_wp2_with fail
          go_roundw
          case rel => exact ⟨k + 1, by omega, by go_num, Hall.out, bthen hb.out p.h⟩
          case measure => simp [intOf]; omega
      · have Hyes : Hid (tf (Pair sameT a b) = true) := tf_yes ⟨Hlen.out, fun j x y hx hy => hall.out j x y hx hy (by have := (List.getElem?_eq_some_iff.1 hx).1; omega)⟩
        go_wp2_with fail
        go_ret
        exact ⟨by rw [Hyes.out]; rfl, Hbw.out⟩
  · have hneq : ((a.length : Int) != (b.length : Int)) = true := by simp; omega
    have heql : ((a.length : Int) == (b.length : Int)) = false := by simp; omega
    have Hno : Hid (tf (Pair sameT a b) = false) := tf_no fun h => hlen h.1
    clear hlen
    go_enter Tryd.func23, Tryd.ntmps23
    go_wp2_with fail
    go_ret
    exact ⟨by rw [Hno.out]; rfl, by rw [Hw0.out]; exact Hb0.out⟩
end Go.Proofs.YtmcgcanpaffggaaDoor
