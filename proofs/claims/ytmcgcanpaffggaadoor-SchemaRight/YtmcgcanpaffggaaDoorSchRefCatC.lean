/-
  Contract of the document's own Right of layer 8.
-/
import Derived.Test.YtmcgcanpaffggaaDoorSchRefTabC
import Derived.Test.YtmcgcanpaffggaaDoorPart1
import Derived.Test.YtmcgcanpaffggaaDoorPart2
import Derived.Test.YtmcgcanpaffggaaDoorPart3
namespace Go.Proofs.YtmcgcanpaffggaaDoor
open Go.RowKit

theorem ok_moreT {l : List Tb} {k : Nat} {x : Tb} (h : ∀ j, j < k → OkAt Tb.id Tb.nm l j) (hx : l[k]? = some x) (h1 : ∀ y, 0 < k → l[k - 1]? = some y → y.id < x.id)
    (h2 : (l.findIdx? fun y => eqS y.nm x.nm) = some k) : ∀ j, j < k + 1 → OkAt Tb.id Tb.nm l j := fun j hj => by
  by_cases e : j = k
  · subst e
    intro z hz
    rw [hx] at hz; cases hz
    exact ⟨h1, (find_ownT hx).1 h2⟩
  · exact h j (by omega)
theorem dist_no_idT {l : List Tb} {j : Nat} {x y : Tb} (hx : l[j + 1]? = some x) (hy : l[j]? = some y) (h2 : x.id ≤ y.id) : ¬ Dist Tb.id Tb.nm l := fun h => by
  have := (h (j + 1) (List.getElem?_eq_some_iff.1 hx).1 x hx).1 y (by omega) (by simpa using hy)
  omega
theorem dist_no_nmT {l : List Tb} {k : Nat} {x : Tb} (hx : l[k]? = some x) (h2 : (l.findIdx? fun y => eqS y.nm x.nm) ≠ some k) : ¬ Dist Tb.id Tb.nm l := fun h =>
  h2 ((find_ownT hx).2 (h k (List.getElem?_eq_some_iff.1 hx).1 x hx).2)
theorem rightCat_no1 {l : List Tb} {k : Nat} {x : Tb} (hx : l[k]? = some x) (h : rightTab x = false) : (l.all rightTab && tf (Dist Tb.id Tb.nm l)) = false := by
  have : l.all rightTab = false := by
    cases e : l.all rightTab with
    | false => rfl
    | true =>
      rw [List.all_eq_true] at e
      have := e x (List.mem_of_getElem? hx)
      rw [h] at this; cases this
  rw [this]; rfl

set_option maxRecDepth 100000 in
set_option maxHeartbeats 4000000 in
theorem rrcat_any (A : Option Addr) (cp : Nat) (l : List Tb) (w : World) (hA : TabsAt w w.heap.size A l) (hw : ∀ t ∈ l, WfT t) (hl : l.length ≤ 1000000) :
    Calls Tryd.prog 15 #[.agg #[.slice A l.length cp]] w fun e w' => e = .returned (.bool (rightCat l)) ∧ Below w.heap.size w w' := by
  obtain ⟨w0, hw0, hb0, hB, hs0⟩ := box_one w (.slice A l.length cp) 24
  have Hw0 := Lib.hid hw0; clear hw0
  have Hb0 := Lib.hid hb0
  have HA := Lib.hid (hA.to hb0); clear hA hb0
  have HB := Lib.hid hB.one; clear hB
  have Hs0 := Lib.hid hs0; clear hs0
  have HW := Lib.hid hw; clear hw
  have Hv : Hid (rightCat l = (decide ((l.length : Int) ≤ 6) && (l.all rightTab && tf (Dist Tb.id Tb.nm l)))) := rfl
  have e1 : decide (6 < (l.length : Int)) = !decide ((l.length : Int) ≤ 6) := by apply bool_eq; simp
  generalize decide ((l.length : Int) ≤ 6) = b1 at Hv e1
  cases b1
  · replace e1 : decide (6 < (l.length : Int)) = true := e1
    go_enter Tryd.func15, Tryd.ntmps15
    go_wp2_with fail
    go_ret
    exact ⟨by rw [Hv.out]; rfl, by go_grown⟩
  replace e1 : decide (6 < (l.length : Int)) = false := e1
  go_enter Tryd.func15, Tryd.ntmps15
  go_wp2_with fail
  rw [Hw0.out]
  replace Hv : Hid (rightCat l = (l.all rightTab && tf (Dist Tb.id Tb.nm l))) := by show _ = _; rw [Hv.out]; simp
  clear e1
  go_loopw [3] (fun i wr => ∃ k : Nat, k ≤ l.length ∧ i = .int .i64 k ∧ Hid (∀ j c, l[j]? = some c → j < k → rightTab c = true) ∧ Hid (∀ j, j < k → OkAt Tb.id Tb.nm l j) ∧ Hid (Below w0.heap.size w0 wr)) (fun i _ => l.length - (intOf i).toNat)
  case atStart => exact ⟨0, by omega, rfl, fun j v _ h => absurd h (by omega), fun j h => absurd h (by omega), Below.refl _ _⟩
  case round =>
    obtain ⟨k, hk, rfl, hall, hok, hb⟩ := hrel
    have Hbw := Lib.hid (bthen Hb0.out hb.out)
    have c0 : wr.cell? ⟨w.heap.size, 0, none⟩ = some (.slice A l.length cp) := (hb.out.cell (by have := Hs0.out; simp; omega)).trans HB.out
    by_cases hlt : k < l.length
    · obtain ⟨x, hx⟩ : ∃ x, l[k]? = some x := ⟨l[k], by simp [hlt]⟩
      have Hx := Lib.hid hx
      obtain ⟨b, off, hAe, hbB, d0, d1, d2, d3, d4⟩ := (HA.out.below hb.out).get k x hx
      rw [hAe] at c0
      obtain ⟨w1, hw1, hb1, hX, hs1⟩ := box_tab wr x
      have Hw1 := Lib.hid hw1; clear hw1
      have Hs1 := Lib.hid hs1; clear hs1
      have HX := Lib.hid hX; clear hX
      have Hb1 := Lib.hid hb1
      have HA1 := Lib.hid ((HA.out.to hb.out).to hb1)
      have Hbw1 := Lib.hid (bthen Hbw.out hb1); clear hb1
      have HC := Lib.hid (fun w' hA' => rrtab_any x w' (HW.out x (List.mem_of_getElem? hx)) hA')
      have Hxm := Lib.hid (List.mem_of_getElem? hx)
      clear hx
      have Hblt : Hid (b < wr.heap.size) := by show _ < _; have := hb.out.size; omega
      have Htlt : Hid (w.heap.size < wr.heap.size) := by show _ < _; have := hb.out.size; have := Hs0.out; omega
      have HL : Hid (∀ w' : World, TabsAt w' w'.heap.size A l → Calls Tryd.prog 20 #[.agg #[.slice (some ⟨b, off, none⟩) l.length cp], .string x.nm] w' fun e w2 => e = .returned (.int .i64 (idxI (l.findIdx? fun y => eqS y.nm x.nm))) ∧ Below w'.heap.size w' w2) := fun w' hA' => by
        have := rfind_any A cp l x.nm w' hA' hl
        rw [hAe] at this
        exact this
      have HAe := Lib.hid hAe; clear hAe
      have hne : Nonempty (BelowBy w1.heap.size w1) := ⟨⟨w1, Below.refl _ _⟩⟩
      have X0 : ∀ p : BelowBy w1.heap.size w1, p.x.cell? ⟨wr.heap.size, 0, none⟩ = some (.int .i64 x.id) := fun p => (p.h.cell (by have := Hs1.out; simp; omega)).trans (HX.out 0 _ rfl)
      have X1 : ∀ p : BelowBy w1.heap.size w1, p.x.cell? ⟨wr.heap.size, 1, none⟩ = some (.string x.nm) := fun p => (p.h.cell (by have := Hs1.out; simp; omega)).trans (HX.out 1 _ rfl)
      have X2 : ∀ p : BelowBy w1.heap.size w1, p.x.cell? ⟨wr.heap.size, 2, none⟩ = some (.int .i64 x.key) := fun p => (p.h.cell (by have := Hs1.out; simp; omega)).trans (HX.out 2 _ rfl)
      have X3 : ∀ p : BelowBy w1.heap.size w1, p.x.cell? ⟨wr.heap.size, 3, none⟩ = some (.int .i64 x.nx) := fun p => (p.h.cell (by have := Hs1.out; simp; omega)).trans (HX.out 3 _ rfl)
      have X4 : ∀ p : BelowBy w1.heap.size w1, p.x.cell? ⟨wr.heap.size, 4, none⟩ = some (.slice x.A x.cols.length x.cap) := fun p => (p.h.cell (by have := Hs1.out; simp; omega)).trans (HX.out 4 _ rfl)
      have T0 : ∀ p : BelowBy w1.heap.size w1, p.x.cell? ⟨w.heap.size, 0, none⟩ = some (.slice (some ⟨b, off, none⟩) l.length cp) := fun p => (p.h.cell (by have := Hs1.out; have := Htlt.out; simp; omega)).trans ((Hb1.out.cell (p := ⟨w.heap.size, 0, none⟩) Htlt.out).trans c0)
      cases hr : rightTab x
      · have Hno : Hid ((l.all rightTab && tf (Dist Tb.id Tb.nm l)) = false) := rightCat_no1 Hx.out hr
        rw [hr] at HC
        clear hr
        go_wp2_with fail
        rw [Hw1.out]
        refine wp_region_below w1.heap.size (by kernel_rfl) (by kernel_rfl) ?_
        repeat (
          with_reducible refine wpQuiet_step (fun K hK => ?_)
          go_simp
          refine hK _ ?_
          clear hK K)
        with_reducible refine wpQuiet_step (fun K hK => ?_)
        go_simp
        apply Exists.intro
        refine ⟨fun p => ?_, hK _ ?_⟩
        exact (HC.out _ ((HA1.out.to p.h).2 x Hxm.out)).mono fun e w5 ⟨he, hb⟩ => ⟨he, p.step (Nat.le_refl _) hb⟩
        clear hK K
        repeat (
          with_reducible refine wpQuiet_step (fun K hK => ?_)
          go_simp
          refine hK _ ?_
          clear hK K)
        refine wpQuiet_nil ?_
        rintro _ ⟨p, rfl⟩
        go_wp2_with fail
        go_ret
        exact ⟨by rw [Hv.out, Hno.out]; rfl, bthen Hbw1.out p.h⟩
      · have Hcc := Lib.hid hr
        rw [hr] at HC
        clear hr
        by_cases hk0 : k = 0
        · subst hk0
          simp only [Nat.zero_mul, Nat.add_zero] at d0 d1 d2 d3 d4
          have Hco : Hid ((l.findIdx? fun y => eqS y.nm x.nm) = some 0) := find_at (fun j x _ h => absurd h (by omega)) Hx.out (eqS_self _)
          have Hok : Hid (∀ j, j < 0 + 1 → OkAt Tb.id Tb.nm l j) := ok_moreT hok.out Hx.out (fun y h _ => absurd h (by omega)) Hco.out
          have hie : idxI (l.findIdx? fun y => eqS y.nm x.nm) = 0 := by rw [Hco.out]; rfl
          rw [hie] at HL
          clear hie
          have Hall : Hid (∀ i d, l[i]? = some d → i < 0 + 1 → rightTab d = true) := fun i d hj hk => by
            by_cases e : i = 0
            · subst e
              rw [Hx.out] at hj
              cases hj
              exact Hcc.out
            · exact hall.out i d hj (by omega)
          go_wp2_with fail
          rw [Hw1.out]
          refine wp_region_below w1.heap.size (by kernel_rfl) (by kernel_rfl) ?_
          repeat (
            with_reducible refine wpQuiet_step (fun K hK => ?_)
            go_simp
            refine hK _ ?_
            clear hK K)
          with_reducible refine wpQuiet_step (fun K hK => ?_)
          go_simp
          apply Exists.intro
          refine ⟨fun p => ?_, hK _ ?_⟩
          exact (HC.out _ ((HA1.out.to p.h).2 x Hxm.out)).mono fun e w5 ⟨he, hb⟩ => ⟨he, p.step (Nat.le_refl _) hb⟩
          clear hK K
          repeat (
            with_reducible refine wpQuiet_step (fun K hK => ?_)
            go_simp
            refine hK _ ?_
            clear hK K)
          with_reducible refine wpQuiet_step (fun K hK => ?_)
          go_simp
          apply Exists.intro
          refine ⟨fun p => ?_, hK _ ?_⟩
          exact (HL.out _ (HA1.out.to p.h)).mono fun e w5 ⟨he, hb⟩ => ⟨he, p.step (Nat.le_refl _) hb⟩
          clear hK K
          repeat (
            with_reducible refine wpQuiet_step (fun K hK => ?_)
            go_simp
            refine hK _ ?_
            clear hK K)
          refine wpQuiet_nil ?_
          rintro _ ⟨p, rfl⟩
          go_wp2_with fail
          go_roundw
          case rel => exact ⟨0 + 1, by omega, by go_num, Hall, Hok, bthen (bthen hb.out Hb1.out) p.h⟩
          case measure => simp [intOf]; omega
        · obtain ⟨j, rfl⟩ : ∃ j, k = j + 1 := ⟨k - 1, by omega⟩
          clear hk0
          obtain ⟨y, hy⟩ : ∃ y, l[j]? = some y := ⟨l[j]'(by omega), by simp [show j < l.length by omega]⟩
          have Hy := Lib.hid hy
          obtain ⟨b', off', e', _, y0, _⟩ := (HA.out.below hb.out).get j y hy
          rw [HAe.out] at e'
          cases e'
          clear hy
          have Y0 : ∀ p : BelowBy w1.heap.size w1, p.x.cell? ⟨b, off + j * 5, none⟩ = some (.int .i64 y.id) := fun p => (p.h.cell (by have := Hs1.out; have := Hblt.out; simp; omega)).trans ((Hb1.out.cell (p := ⟨b, off + j * 5, none⟩) Hblt.out).trans y0)
          have hwj : IntKind.i64.wrap (j : Int) = (j : Int) := by rw [IntKind.wrap_i64]; omega
          have hj0 : (0 : Int) ≤ (j : Int) := by omega
          have hjl : (j : Int) < (l.length : Int) := by omega
          cases hd : decide (x.id ≤ y.id)
          · have Hlt : Hid (y.id < x.id) := by have h := of_decide_eq_false hd; show _ < _; omega
            have Hpr : Hid (∀ z, 0 < j + 1 → l[j + 1 - 1]? = some z → z.id < x.id) := fun z _ hz => by
              rw [show j + 1 - 1 = j by omega, Hy.out] at hz
              cases hz
              exact Hlt.out
            by_cases hco : (l.findIdx? fun y => eqS y.nm x.nm) = some (j + 1)
            · have Hco := Lib.hid hco
              have Hok : Hid (∀ i, i < j + 1 + 1 → OkAt Tb.id Tb.nm l i) := ok_moreT hok.out Hx.out Hpr.out Hco.out
              have hie : idxI (l.findIdx? fun y => eqS y.nm x.nm) = ((j + 1 : Nat) : Int) := by rw [Hco.out]; rfl
              rw [hie] at HL
              clear hie hco
              have Hall : Hid (∀ i d, l[i]? = some d → i < j + 1 + 1 → rightTab d = true) := fun i d hj hk => by
                by_cases e : i = j + 1
                · subst e
                  rw [Hx.out] at hj
                  cases hj
                  exact Hcc.out
                · exact hall.out i d hj (by omega)
              go_wp2_with fail
              rw [Hw1.out]
              refine wp_region_below w1.heap.size (by kernel_rfl) (by kernel_rfl) ?_
              repeat (
                with_reducible refine wpQuiet_step (fun K hK => ?_)
                go_simp
                refine hK _ ?_
                clear hK K)
              with_reducible refine wpQuiet_step (fun K hK => ?_)
              go_simp
              apply Exists.intro
              refine ⟨fun p => ?_, hK _ ?_⟩
              exact (HC.out _ ((HA1.out.to p.h).2 x Hxm.out)).mono fun e w5 ⟨he, hb⟩ => ⟨he, p.step (Nat.le_refl _) hb⟩
              clear hK K
              repeat (
                with_reducible refine wpQuiet_step (fun K hK => ?_)
                go_simp
                refine hK _ ?_
                clear hK K)
              with_reducible refine wpQuiet_step (fun K hK => ?_)
              go_simp
              apply Exists.intro
              refine ⟨fun p => ?_, hK _ ?_⟩
              exact (HL.out _ (HA1.out.to p.h)).mono fun e w5 ⟨he, hb⟩ => ⟨he, p.step (Nat.le_refl _) hb⟩
              clear hK K
              repeat (
                with_reducible refine wpQuiet_step (fun K hK => ?_)
                go_simp
                refine hK _ ?_
                clear hK K)
              refine wpQuiet_nil ?_
              rintro _ ⟨p, rfl⟩
              go_wp2_with fail
              go_roundw
              case rel => exact ⟨j + 1 + 1, by omega, by go_num, Hall, Hok, bthen (bthen hb.out Hb1.out) p.h⟩
              case measure => simp [intOf]; omega
            · have Hno : Hid ((l.all rightTab && tf (Dist Tb.id Tb.nm l)) = false) := by show _ = _; rw [tf_no (dist_no_nmT Hx.out hco), Bool.and_false]
              have hie : (idxI (l.findIdx? fun y => eqS y.nm x.nm) == ((j : Int) + 1)) = false := by have := idxI_eq (l.findIdx? fun y => eqS y.nm x.nm) (j + 1); rw [decide_eq_false hco] at this; simpa using this
              generalize idxI (l.findIdx? fun y => eqS y.nm x.nm) = z at HL hie
              clear hco
              go_wp2_with fail
              rw [Hw1.out]
              refine wp_region_below w1.heap.size (by kernel_rfl) (by kernel_rfl) ?_
              repeat (
                with_reducible refine wpQuiet_step (fun K hK => ?_)
                go_simp
                refine hK _ ?_
                clear hK K)
              with_reducible refine wpQuiet_step (fun K hK => ?_)
              go_simp
              apply Exists.intro
              refine ⟨fun p => ?_, hK _ ?_⟩
              exact (HC.out _ ((HA1.out.to p.h).2 x Hxm.out)).mono fun e w5 ⟨he, hb⟩ => ⟨he, p.step (Nat.le_refl _) hb⟩
              clear hK K
              repeat (
                with_reducible refine wpQuiet_step (fun K hK => ?_)
                go_simp
                refine hK _ ?_
                clear hK K)
              with_reducible refine wpQuiet_step (fun K hK => ?_)
              go_simp
              apply Exists.intro
              refine ⟨fun p => ?_, hK _ ?_⟩
              exact (HL.out _ (HA1.out.to p.h)).mono fun e w5 ⟨he, hb⟩ => ⟨he, p.step (Nat.le_refl _) hb⟩
              clear hK K
              repeat (
                with_reducible refine wpQuiet_step (fun K hK => ?_)
                go_simp
                refine hK _ ?_
                clear hK K)
              refine wpQuiet_nil ?_
              rintro _ ⟨p, rfl⟩
              go_wp2_with fail
              go_ret
              exact ⟨by rw [Hv.out, Hno.out]; rfl, bthen Hbw1.out p.h⟩
          · have Hno : Hid ((l.all rightTab && tf (Dist Tb.id Tb.nm l)) = false) := by show _ = _; rw [tf_no (dist_no_idT Hx.out Hy.out (of_decide_eq_true hd)), Bool.and_false]
            go_wp2_with fail
            rw [Hw1.out]
            refine wp_region_below w1.heap.size (by kernel_rfl) (by kernel_rfl) ?_
            repeat (
              with_reducible refine wpQuiet_step (fun K hK => ?_)
              go_simp
              refine hK _ ?_
              clear hK K)
            with_reducible refine wpQuiet_step (fun K hK => ?_)
            go_simp
            apply Exists.intro
            refine ⟨fun p => ?_, hK _ ?_⟩
            exact (HC.out _ ((HA1.out.to p.h).2 x Hxm.out)).mono fun e w5 ⟨he, hb⟩ => ⟨he, p.step (Nat.le_refl _) hb⟩
            clear hK K
            repeat (
              with_reducible refine wpQuiet_step (fun K hK => ?_)
              go_simp
              refine hK _ ?_
              clear hK K)
            refine wpQuiet_nil ?_
            rintro _ ⟨p, rfl⟩
            go_wp2_with fail
            go_ret
            exact ⟨by rw [Hv.out, Hno.out]; rfl, bthen Hbw1.out p.h⟩
    · have Hyes : Hid (rightCat l = true) := by
        show _ = _
        rw [Hv.out, tf_yes (show Dist Tb.id Tb.nm l from fun i hi => hok.out i (by omega)), all_at (fun j c hj => hall.out j c hj (by have := (List.getElem?_eq_some_iff.1 hj).1; omega))]; rfl
      go_wp2_with fail
      go_ret
      exact ⟨by rw [Hyes.out]; rfl, Hbw.out⟩
end Go.Proofs.YtmcgcanpaffggaaDoor
