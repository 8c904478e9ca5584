/-
  Texts that the proof needs, one behind the other: SchRefTabC, SchRefCatC, DdlRefAppD, DdlAllM, DdlRefAppB.
-/
import Derived.Deep.RegionLaw
import Derived.Deep.CutBlock
import Derived.Deep.DeepCutAuto
import Derived.Test.YthmjgaekcghonaaGreatDoorPart1
import Derived.Test.YthmjgaekcghonaaGreatDoorPart2
import Derived.Test.YthmjgaekcghonaaGreatDoorPart3
import Derived.Test.YthmjgaekcghonaaGreatDoorPart4
import Derived.Test.YthmjgaekcghonaaGreatDoorPart5
import Derived.Test.YthmjgaekcghonaaGreatDoorPart6
import Derived.Test.YthmjgaekcghonaaGreatDoorPart7
import Derived.Test.YthmjgaekcghonaaGreatDoorPart8
import Derived.Test.YthmjgaekcghonaaGreatDoorPart9
import Derived.Test.YthmjgaekcghonaaGreatDoorPart10

/-
  Contract of the document's own Table of layer 8.
-/
namespace Go.Proofs.YthmjgaekcghonaaGreatDoor
open Go.RowKit

theorem ok_more {l : List Cb} {k : Nat} {x : Cb} (h : ∀ j, j < k → OkAt Cb.id Cb.nm l j) (hx : l[k]? = some x) (h1 : ∀ y, 0 < k → l[k - 1]? = some y → y.id < x.id)
    (h2 : (l.findIdx? fun y => eqS y.nm x.nm) = some k) : ∀ j, j < k + 1 → OkAt Cb.id Cb.nm l j := fun j hj => by
  by_cases e : j = k
  · subst e
    intro z hz
    rw [hx] at hz; cases hz
    exact ⟨h1, (find_own hx).1 h2⟩
  · exact h j (by omega)
theorem dist_no_id {l : List Cb} {j : Nat} {x y : Cb} (hx : l[j + 1]? = some x) (hy : l[j]? = some y) (h2 : x.id ≤ y.id) : ¬ Dist Cb.id Cb.nm l := fun h => by
  have := (h (j + 1) (List.getElem?_eq_some_iff.1 hx).1 x hx).1 y (by omega) (by simpa using hy)
  omega
theorem dist_no_nm {l : List Cb} {k : Nat} {x : Cb} (hx : l[k]? = some x) (h2 : (l.findIdx? fun y => eqS y.nm x.nm) ≠ some k) : ¬ Dist Cb.id Cb.nm l := fun h =>
  h2 ((find_own hx).2 (h k (List.getElem?_eq_some_iff.1 hx).1 x hx).2)
theorem rightCols_no1 {t : Tb} {k : Nat} {c : Cb} (hc : t.cols[k]? = some c) (h : (rightC c && decide (c.id < t.nx)) = false) : rightCols t = false := by
  unfold rightCols
  have : (t.cols.all fun c => rightC c && decide (c.id < t.nx)) = false := by
    cases e : t.cols.all fun c => rightC c && decide (c.id < t.nx) with
    | false => rfl
    | true =>
      rw [List.all_eq_true] at e
      have := e c (List.mem_of_getElem? hc)
      rw [h] at this; cases this
  rw [this]; rfl
theorem rightCols_no2 {t : Tb} (h : ¬ Dist Cb.id Cb.nm t.cols) : rightCols t = false := by unfold rightCols; rw [tf_no h, Bool.and_false]
theorem rightCols_yes {t : Tb} (h1 : ∀ (j : Nat) c, t.cols[j]? = some c → (rightC c && decide (c.id < t.nx)) = true) (h : Dist Cb.id Cb.nm t.cols) : rightCols t = true := by
  unfold rightCols; rw [tf_yes h, all_at h1]; rfl
theorem idxI_eq (o : Option Nat) (k : Nat) : (idxI o == (k : Int)) = decide (o = some k) := by
  apply bool_eq
  cases o with
  | none => simp [idxI]
  | some q => simp [idxI]; omega
theorem any_take {l : List Cb} {k : Nat} {c : Cb} (hc : l[k]? = some c) (p : Cb → Bool) : (l.take (k + 1)).any p = ((l.take k).any p || p c) := by
  obtain ⟨h1, rfl⟩ := List.getElem?_eq_some_iff.1 hc
  rw [List.take_succ_eq_append_getElem h1, List.any_append]; simp

set_option maxRecDepth 100000 in
set_option maxHeartbeats 4000000 in
theorem rrtab_any (t : Tb) (w : World) (hw : WfT t) (hA : TabAt w w.heap.size t) :
    Calls Tryz.prog 28 #[TV t] w fun e w' => e = .returned (.bool (rightTab t)) ∧ Below w.heap.size w w' := by
  obtain ⟨w0, hw0, hb0, hB, hs0⟩ := box_tab w t
  have Hw0 := Lib.hid hw0; clear hw0
  have Hb0 := Lib.hid hb0
  have HA := Lib.hid (RowAt.to hA hb0); clear hA hb0
  have HB := Lib.hid hB; clear hB
  have Hs0 := Lib.hid hs0; clear hs0
  have HW := Lib.hid hw
  have HN := Lib.hid (fun w => nrright_any t.nm w hw.1)
  have hlen := hw.2.1; clear hw
  have Hv : Hid (rightTab t = (decide (0 ≤ t.id) && (rightN (bs t.nm) && (decide (t.nx ≤ 200) && (decide (1 ≤ (t.cols.length : Int)) && (decide ((t.cols.length : Int) ≤ 10) && (rightCols t && tf (keyOk t)))))))) := rfl
  have e1 : decide (t.id < 0) = !decide (0 ≤ t.id) := by apply bool_eq; simp
  have e3 : decide (200 < t.nx) = !decide (t.nx ≤ 200) := by apply bool_eq; simp
  have e4 : decide ((t.cols.length : Int) < 1) = !decide (1 ≤ (t.cols.length : Int)) := by apply bool_eq; simp
  have e5 : decide (10 < (t.cols.length : Int)) = !decide ((t.cols.length : Int) ≤ 10) := by apply bool_eq; simp
  generalize decide (0 ≤ t.id) = b1 at Hv e1
  generalize rightN (bs t.nm) = b2 at Hv HN
  generalize decide (t.nx ≤ 200) = b3 at Hv e3
  generalize decide (1 ≤ (t.cols.length : Int)) = b4 at Hv e4
  generalize decide ((t.cols.length : Int) ≤ 10) = b5 at Hv e5
  cases b1
  · replace e1 : decide (t.id < 0) = true := e1
    go_enter Tryz.func28, Tryz.ntmps28
    go_wp2_with fail
    go_ret
    exact ⟨by rw [Hv.out]; rfl, by go_grown⟩
  cases b2
  · replace e1 : decide (t.id < 0) = false := e1
    go_enter Tryz.func28, Tryz.ntmps28
    go_wp2_with fail
    refine (HN.out _).mono ?_
    rintro e w1 ⟨rfl, rfl⟩
    go_wp2_with fail
    go_ret
    exact ⟨by rw [Hv.out]; rfl, by go_grown⟩
  cases b4
  · replace e1 : decide (t.id < 0) = false := e1
    replace e4 : decide ((t.cols.length : Int) < 1) = true := e4
    go_enter Tryz.func28, Tryz.ntmps28
    go_wp2_with fail
    refine (HN.out _).mono ?_
    rintro e w1 ⟨rfl, rfl⟩
    go_wp2_with fail
    go_ret
    exact ⟨by rw [Hv.out]; simp, by go_grown⟩
  cases b5
  · replace e1 : decide (t.id < 0) = false := e1
    replace e4 : decide ((t.cols.length : Int) < 1) = false := e4
    replace e5 : decide (10 < (t.cols.length : Int)) = true := e5
    go_enter Tryz.func28, Tryz.ntmps28
    go_wp2_with fail
    refine (HN.out _).mono ?_
    rintro e w1 ⟨rfl, rfl⟩
    go_wp2_with fail
    go_ret
    exact ⟨by rw [Hv.out]; simp, by go_grown⟩
  cases b3
  · replace e1 : decide (t.id < 0) = false := e1
    replace e4 : decide ((t.cols.length : Int) < 1) = false := e4
    replace e5 : decide (10 < (t.cols.length : Int)) = false := e5
    replace e3 : decide (200 < t.nx) = true := e3
    go_enter Tryz.func28, Tryz.ntmps28
    go_wp2_with fail
    refine (HN.out _).mono ?_
    rintro e w1 ⟨rfl, rfl⟩
    go_wp2_with fail
    go_ret
    exact ⟨by rw [Hv.out]; rfl, by go_grown⟩
  · replace e1 : decide (t.id < 0) = false := e1
    replace e4 : decide ((t.cols.length : Int) < 1) = false := e4
    replace e5 : decide (10 < (t.cols.length : Int)) = false := e5
    replace e3 : decide (200 < t.nx) = false := e3
    go_enter Tryz.func28, Tryz.ntmps28
    go_wp2_with fail
    refine (HN.out _).mono ?_
    rintro e w1 ⟨rfl, rfl⟩
    go_wp2_with fail
    rw [Hw0.out]
    replace Hv : Hid (rightTab t = (rightCols t && tf (keyOk t))) := by show _ = _; rw [Hv.out]; simp
    clear e1 e3 e4 e5
    go_loopw [3, 4] (fun kb i wr => ∃ k : Nat, k ≤ t.cols.length ∧ i = .int .i64 k ∧ (∃ q : Bool, kb = .bool q ∧ Hid (((t.cols.take k).any fun c => (c.id == t.key) && !c.nl) = q)) ∧
      Hid (∀ j c, t.cols[j]? = some c → j < k → (rightC c && decide (c.id < t.nx)) = true) ∧ Hid (∀ j, j < k → OkAt Cb.id Cb.nm t.cols j) ∧ Hid (Below w0.heap.size w0 wr)) (fun _ i _ => t.cols.length - (intOf i).toNat)
    case atStart => exact ⟨0, by omega, rfl, ⟨false, rfl, rfl⟩, fun j v _ h => absurd h (by omega), fun j h => absurd h (by omega), Below.refl _ _⟩
    case round =>
      obtain ⟨k, hk, rfl, ⟨q, rfl, Hq⟩, hall, hok, hb⟩ := hrel
      have Hbw := Lib.hid (bthen Hb0.out hb.out)
      obtain ⟨c0, c1, c2, c3, c4⟩ := (HB.out.below hb.out (show w.heap.size < w0.heap.size by have := Hs0.out; omega)).tab
      by_cases hlt : k < t.cols.length
      · obtain ⟨c, hc⟩ : ∃ c, t.cols[k]? = some c := ⟨t.cols[k], by simp [hlt]⟩
        have Hc := Lib.hid hc
        obtain ⟨b, off, hAe, hbB, d0, d1, d2, d3, d4, d5, d6, d7⟩ := ColsAt.get (RowAt.below HA.out hb.out) k c hc
        rw [hAe] at c4
        obtain ⟨w1, hw1, hb1, hX, hs1⟩ := box_col wr c
        have Hw1 := Lib.hid hw1; clear hw1
        have Hs1 := Lib.hid hs1; clear hs1
        have HX := Lib.hid hX; clear hX
        have Hb1 := Lib.hid hb1
        have HA1 := Lib.hid (RowAt.to (RowAt.to HA.out hb.out) hb1)
        have Hbw1 := Lib.hid (bthen Hbw.out hb1); clear hb1
        have HC := Lib.hid (fun w => rrcol_any c w (HW.out.2.2.2 c (List.mem_of_getElem? hc)))
        clear hc
        have Hblt : Hid (b < wr.heap.size) := by show _ < _; have := hb.out.size; omega
        have Htlt : Hid (w.heap.size < wr.heap.size) := by show _ < _; have := hb.out.size; have := Hs0.out; omega
        have HL : Hid (∀ w' : World, TabAt w' w'.heap.size t → Calls Tryz.prog 50 #[.agg #[.int .i64 t.id, .string t.nm, .int .i64 t.key, .int .i64 t.nx, .slice (some ⟨b, off, none⟩) t.cols.length t.cap], .string c.nm] w' fun e w2 => e = .returned (.int .i64 (idxI (colI t c.nm))) ∧ Below w'.heap.size w' w2) := fun w' hA' => by
          have := rcolI_any t c.nm w' hA' hlen
          unfold TV at this
          rw [hAe] at this
          exact this
        have HAe := Lib.hid hAe; clear hAe
        have hne : Nonempty (BelowBy w1.heap.size w1) := ⟨⟨w1, Below.refl _ _⟩⟩
        have X0 : ∀ p : BelowBy w1.heap.size w1, p.x.cell? ⟨wr.heap.size, 0, none⟩ = some (.int .i64 c.id) := fun p => (p.h.cell (by have := Hs1.out; simp; omega)).trans (HX.out 0 _ rfl)
        have X1 : ∀ p : BelowBy w1.heap.size w1, p.x.cell? ⟨wr.heap.size, 1, none⟩ = some (.string c.nm) := fun p => (p.h.cell (by have := Hs1.out; simp; omega)).trans (HX.out 1 _ rfl)
        have X2 : ∀ p : BelowBy w1.heap.size w1, p.x.cell? ⟨wr.heap.size, 2, none⟩ = some (.int .i64 c.tk) := fun p => (p.h.cell (by have := Hs1.out; simp; omega)).trans (HX.out 2 _ rfl)
        have X3 : ∀ p : BelowBy w1.heap.size w1, p.x.cell? ⟨wr.heap.size, 3, none⟩ = some (.int .i64 c.tm) := fun p => (p.h.cell (by have := Hs1.out; simp; omega)).trans (HX.out 3 _ rfl)
        have X4 : ∀ p : BelowBy w1.heap.size w1, p.x.cell? ⟨wr.heap.size, 4, none⟩ = some (.bool c.nl) := fun p => (p.h.cell (by have := Hs1.out; simp; omega)).trans (HX.out 4 _ rfl)
        have X5 : ∀ p : BelowBy w1.heap.size w1, p.x.cell? ⟨wr.heap.size, 5, none⟩ = some (.int .i64 c.dk) := fun p => (p.h.cell (by have := Hs1.out; simp; omega)).trans (HX.out 5 _ rfl)
        have X6 : ∀ p : BelowBy w1.heap.size w1, p.x.cell? ⟨wr.heap.size, 6, none⟩ = some (.int .i64 c.dn) := fun p => (p.h.cell (by have := Hs1.out; simp; omega)).trans (HX.out 6 _ rfl)
        have X7 : ∀ p : BelowBy w1.heap.size w1, p.x.cell? ⟨wr.heap.size, 7, none⟩ = some (.string c.ds) := fun p => (p.h.cell (by have := Hs1.out; simp; omega)).trans (HX.out 7 _ rfl)
        have T0 : ∀ p : BelowBy w1.heap.size w1, p.x.cell? ⟨w.heap.size, 0, none⟩ = some (.int .i64 t.id) := fun p => (p.h.cell (by have := Hs1.out; have := Htlt.out; simp; omega)).trans ((Hb1.out.cell (p := ⟨w.heap.size, 0, none⟩) Htlt.out).trans c0)
        have T1 : ∀ p : BelowBy w1.heap.size w1, p.x.cell? ⟨w.heap.size, 1, none⟩ = some (.string t.nm) := fun p => (p.h.cell (by have := Hs1.out; have := Htlt.out; simp; omega)).trans ((Hb1.out.cell (p := ⟨w.heap.size, 1, none⟩) Htlt.out).trans c1)
        have T2 : ∀ p : BelowBy w1.heap.size w1, p.x.cell? ⟨w.heap.size, 2, none⟩ = some (.int .i64 t.key) := fun p => (p.h.cell (by have := Hs1.out; have := Htlt.out; simp; omega)).trans ((Hb1.out.cell (p := ⟨w.heap.size, 2, none⟩) Htlt.out).trans c2)
        have T3 : ∀ p : BelowBy w1.heap.size w1, p.x.cell? ⟨w.heap.size, 3, none⟩ = some (.int .i64 t.nx) := fun p => (p.h.cell (by have := Hs1.out; have := Htlt.out; simp; omega)).trans ((Hb1.out.cell (p := ⟨w.heap.size, 3, none⟩) Htlt.out).trans c3)
        have T4 : ∀ p : BelowBy w1.heap.size w1, p.x.cell? ⟨w.heap.size, 4, none⟩ = some (.slice (some ⟨b, off, none⟩) t.cols.length t.cap) := fun p => (p.h.cell (by have := Hs1.out; have := Htlt.out; simp; omega)).trans ((Hb1.out.cell (p := ⟨w.heap.size, 4, none⟩) Htlt.out).trans c4)
        cases hr : rightC c
        · have Hno : Hid (rightCols t = false) := rightCols_no1 Hc.out (by rw [hr]; rfl)
          rw [hr] at HC
          clear hr
          go_wp2_with fail
          rw [Hw1.out]
          refine wp_region_below w1.heap.size (by kernel_rfl) (by kernel_rfl) ?_
          repeat (
            with_reducible refine wpQuiet_step (fun K hK => ?_)
            go_simp
            refine hK _ ?_
            clear hK K)
          with_reducible refine wpQuiet_step (fun K hK => ?_)
          go_simp
          apply Exists.intro
          refine ⟨fun p => ?_, hK _ ?_⟩
          exact (HC.out _).mono fun e w5 ⟨he, hb⟩ => ⟨he, p.step (Nat.le_refl _) hb⟩
          clear hK K
          repeat (
            with_reducible refine wpQuiet_step (fun K hK => ?_)
            go_simp
            refine hK _ ?_
            clear hK K)
          refine wpQuiet_nil ?_
          rintro _ ⟨p, rfl⟩
          have c0 := X0 p; have c4 := X4 p; have c2 := T2 p
          go_wp2_with fail
          go_ret
          exact ⟨by rw [Hv.out, Hno.out]; rfl, bthen Hbw1.out p.h⟩
        · cases hx : decide (t.nx ≤ c.id)
          · have Hcc : Hid ((rightC c && decide (c.id < t.nx)) = true) := by show _ = _; rw [hr]; simpa using hx
            rw [hr] at HC
            clear hr
            by_cases hk0 : k = 0
            · subst hk0
              simp only [Nat.zero_mul, Nat.add_zero] at d0 d1 d2 d3 d4 d5 d6 d7
              have Hco : Hid (colI t c.nm = some 0) := find_at (fun j x _ h => absurd h (by omega)) Hc.out (eqS_self _)
              have Hok : Hid (∀ j, j < 0 + 1 → OkAt Cb.id Cb.nm t.cols j) := ok_more hok.out Hc.out (fun y h _ => absurd h (by omega)) Hco.out
              have hie : idxI (colI t c.nm) = 0 := by rw [Hco.out]; rfl
              rw [hie] at HL
              clear hie
              have Hall : Hid (∀ j d, t.cols[j]? = some d → j < 0 + 1 → (rightC d && decide (d.id < t.nx)) = true) := fun j d hj hk => by
                by_cases e : j = 0
                · subst e
                  rw [Hc.out] at hj
                  cases hj
                  exact Hcc.out
                · exact hall.out j d hj (by omega)
              cases q
              · cases hid : (c.id == t.key)
                · have Hq' : Hid (((t.cols.take (0 + 1)).any fun c => (c.id == t.key) && !c.nl) = false) := by show _ = _; rw [any_take Hc.out, Hq.out]; rw [hid]; rfl
                  go_wp2_with fail
                  rw [Hw1.out]
                  refine wp_region_below w1.heap.size (by kernel_rfl) (by kernel_rfl) ?_
                  repeat (
                    with_reducible refine wpQuiet_step (fun K hK => ?_)
                    go_simp
                    refine hK _ ?_
                    clear hK K)
                  with_reducible refine wpQuiet_step (fun K hK => ?_)
                  go_simp
                  apply Exists.intro
                  refine ⟨fun p => ?_, hK _ ?_⟩
                  exact (HC.out _).mono fun e w5 ⟨he, hb⟩ => ⟨he, p.step (Nat.le_refl _) hb⟩
                  clear hK K
                  repeat (
                    with_reducible refine wpQuiet_step (fun K hK => ?_)
                    go_simp
                    refine hK _ ?_
                    clear hK K)
                  with_reducible refine wpQuiet_step (fun K hK => ?_)
                  go_simp
                  apply Exists.intro
                  refine ⟨fun p => ?_, hK _ ?_⟩
                  exact (HL.out _ (RowAt.to HA1.out p.h)).mono fun e w5 ⟨he, hb⟩ => ⟨he, p.step (Nat.le_refl _) hb⟩
                  clear hK K
                  repeat (
                    with_reducible refine wpQuiet_step (fun K hK => ?_)
                    go_simp
                    refine hK _ ?_
                    clear hK K)
                  refine wpQuiet_nil ?_
                  rintro _ ⟨p, rfl⟩
                  have c0 := X0 p; have c4 := X4 p; have c2 := T2 p
                  go_wp2_with fail
                  go_roundw
                  case rel => exact ⟨0 + 1, by omega, by go_num, ⟨_, rfl, Hq'⟩, Hall, Hok, bthen (bthen hb.out Hb1.out) p.h⟩
                  case measure => simp [intOf]; omega
                · have Hq' : Hid (((t.cols.take (0 + 1)).any fun c => (c.id == t.key) && !c.nl) = !c.nl) := by show _ = _; rw [any_take Hc.out, Hq.out]; rw [hid]; rfl
                  go_wp2_with fail
                  rw [Hw1.out]
                  refine wp_region_below w1.heap.size (by kernel_rfl) (by kernel_rfl) ?_
                  repeat (
                    with_reducible refine wpQuiet_step (fun K hK => ?_)
                    go_simp
                    refine hK _ ?_
                    clear hK K)
                  with_reducible refine wpQuiet_step (fun K hK => ?_)
                  go_simp
                  apply Exists.intro
                  refine ⟨fun p => ?_, hK _ ?_⟩
                  exact (HC.out _).mono fun e w5 ⟨he, hb⟩ => ⟨he, p.step (Nat.le_refl _) hb⟩
                  clear hK K
                  repeat (
                    with_reducible refine wpQuiet_step (fun K hK => ?_)
                    go_simp
                    refine hK _ ?_
                    clear hK K)
                  with_reducible refine wpQuiet_step (fun K hK => ?_)
                  go_simp
                  apply Exists.intro
                  refine ⟨fun p => ?_, hK _ ?_⟩
                  exact (HL.out _ (RowAt.to HA1.out p.h)).mono fun e w5 ⟨he, hb⟩ => ⟨he, p.step (Nat.le_refl _) hb⟩
                  clear hK K
                  repeat (
                    with_reducible refine wpQuiet_step (fun K hK => ?_)
                    go_simp
                    refine hK _ ?_
                    clear hK K)
                  refine wpQuiet_nil ?_
                  rintro _ ⟨p, rfl⟩
                  have c0 := X0 p; have c4 := X4 p; have c2 := T2 p
                  go_wp2_with fail
                  go_roundw
                  case rel => exact ⟨0 + 1, by omega, by go_num, ⟨_, rfl, Hq'⟩, Hall, Hok, bthen (bthen hb.out Hb1.out) p.h⟩
                  case measure => simp [intOf]; omega
              · have Hq' : Hid (((t.cols.take (0 + 1)).any fun c => (c.id == t.key) && !c.nl) = true) := by show _ = _; rw [any_take Hc.out, Hq.out]; rfl
                go_wp2_with fail
                rw [Hw1.out]
                refine wp_region_below w1.heap.size (by kernel_rfl) (by kernel_rfl) ?_
                repeat (
                  with_reducible refine wpQuiet_step (fun K hK => ?_)
                  go_simp
                  refine hK _ ?_
                  clear hK K)
                with_reducible refine wpQuiet_step (fun K hK => ?_)
                go_simp
                apply Exists.intro
                refine ⟨fun p => ?_, hK _ ?_⟩
                exact (HC.out _).mono fun e w5 ⟨he, hb⟩ => ⟨he, p.step (Nat.le_refl _) hb⟩
                clear hK K
                repeat (
                  with_reducible refine wpQuiet_step (fun K hK => ?_)
                  go_simp
                  refine hK _ ?_
                  clear hK K)
                with_reducible refine wpQuiet_step (fun K hK => ?_)
                go_simp
                apply Exists.intro
                refine ⟨fun p => ?_, hK _ ?_⟩
                exact (HL.out _ (RowAt.to HA1.out p.h)).mono fun e w5 ⟨he, hb⟩ => ⟨he, p.step (Nat.le_refl _) hb⟩
                clear hK K
                repeat (
                  with_reducible refine wpQuiet_step (fun K hK => ?_)
                  go_simp
                  refine hK _ ?_
                  clear hK K)
                refine wpQuiet_nil ?_
                rintro _ ⟨p, rfl⟩
                have c0 := X0 p; have c4 := X4 p; have c2 := T2 p
                go_wp2_with fail
                go_roundw
                case rel => exact ⟨0 + 1, by omega, by go_num, ⟨_, rfl, Hq'⟩, Hall, Hok, bthen (bthen hb.out Hb1.out) p.h⟩
                case measure => simp [intOf]; omega
            · obtain ⟨j, rfl⟩ : ∃ j, k = j + 1 := ⟨k - 1, by omega⟩
              clear hk0
              obtain ⟨y, hy⟩ : ∃ y, t.cols[j]? = some y := ⟨t.cols[j]'(by omega), by simp [show j < t.cols.length by omega]⟩
              have Hy := Lib.hid hy
              obtain ⟨b', off', e', _, y0, _⟩ := ColsAt.get (RowAt.below HA.out hb.out) j y hy
              rw [HAe.out] at e'
              cases e'
              clear hy
              have Y0 : ∀ p : BelowBy w1.heap.size w1, p.x.cell? ⟨b, off + j * 8, none⟩ = some (.int .i64 y.id) := fun p => (p.h.cell (by have := Hs1.out; have := Hblt.out; simp; omega)).trans ((Hb1.out.cell (p := ⟨b, off + j * 8, none⟩) Hblt.out).trans y0)
              have hwj : IntKind.i64.wrap (j : Int) = (j : Int) := by rw [IntKind.wrap_i64]; omega
              have hj0 : (0 : Int) ≤ (j : Int) := by omega
              have hjl : (j : Int) < (t.cols.length : Int) := by omega
              cases hd : decide (c.id ≤ y.id)
              · have Hlt : Hid (y.id < c.id) := by have h := of_decide_eq_false hd; show _ < _; omega
                have Hpr : Hid (∀ z, 0 < j + 1 → t.cols[j + 1 - 1]? = some z → z.id < c.id) := fun z _ hz => by
                  rw [show j + 1 - 1 = j by omega, Hy.out] at hz
                  cases hz
                  exact Hlt.out
                by_cases hco : colI t c.nm = some (j + 1)
                · have Hco := Lib.hid hco
                  have Hok : Hid (∀ i, i < j + 1 + 1 → OkAt Cb.id Cb.nm t.cols i) := ok_more hok.out Hc.out Hpr.out Hco.out
                  have hie : idxI (colI t c.nm) = ((j + 1 : Nat) : Int) := by rw [Hco.out]; rfl
                  rw [hie] at HL
                  clear hie hco
                  have Hall : Hid (∀ i d, t.cols[i]? = some d → i < j + 1 + 1 → (rightC d && decide (d.id < t.nx)) = true) := fun i d hj hk => by
                    by_cases e : i = j + 1
                    · subst e
                      rw [Hc.out] at hj
                      cases hj
                      exact Hcc.out
                    · exact hall.out i d hj (by omega)
                  cases q
                  · cases hid : (c.id == t.key)
                    · have Hq' : Hid (((t.cols.take (j + 1 + 1)).any fun c => (c.id == t.key) && !c.nl) = false) := by show _ = _; rw [any_take Hc.out, Hq.out]; rw [hid]; rfl
                      go_wp2_with fail
                      rw [Hw1.out]
                      refine wp_region_below w1.heap.size (by kernel_rfl) (by kernel_rfl) ?_
                      repeat (
                        with_reducible refine wpQuiet_step (fun K hK => ?_)
                        go_simp
                        refine hK _ ?_
                        clear hK K)
                      with_reducible refine wpQuiet_step (fun K hK => ?_)
                      go_simp
                      apply Exists.intro
                      refine ⟨fun p => ?_, hK _ ?_⟩
                      exact (HC.out _).mono fun e w5 ⟨he, hb⟩ => ⟨he, p.step (Nat.le_refl _) hb⟩
                      clear hK K
                      repeat (
                        with_reducible refine wpQuiet_step (fun K hK => ?_)
                        go_simp
                        refine hK _ ?_
                        clear hK K)
                      with_reducible refine wpQuiet_step (fun K hK => ?_)
                      go_simp
                      apply Exists.intro
                      refine ⟨fun p => ?_, hK _ ?_⟩
                      exact (HL.out _ (RowAt.to HA1.out p.h)).mono fun e w5 ⟨he, hb⟩ => ⟨he, p.step (Nat.le_refl _) hb⟩
                      clear hK K
                      repeat (
                        with_reducible refine wpQuiet_step (fun K hK => ?_)
                        go_simp
                        refine hK _ ?_
                        clear hK K)
                      refine wpQuiet_nil ?_
                      rintro _ ⟨p, rfl⟩
                      have c0 := X0 p; have c4 := X4 p; have c2 := T2 p
                      go_wp2_with fail
                      go_roundw
                      case rel => exact ⟨j + 1 + 1, by omega, by go_num, ⟨_, rfl, Hq'⟩, Hall, Hok, bthen (bthen hb.out Hb1.out) p.h⟩
                      case measure => simp [intOf]; omega
                    · have Hq' : Hid (((t.cols.take (j + 1 + 1)).any fun c => (c.id == t.key) && !c.nl) = !c.nl) := by show _ = _; rw [any_take Hc.out, Hq.out]; rw [hid]; rfl
                      go_wp2_with fail
                      rw [Hw1.out]
                      refine wp_region_below w1.heap.size (by kernel_rfl) (by kernel_rfl) ?_
                      repeat (
                        with_reducible refine wpQuiet_step (fun K hK => ?_)
                        go_simp
                        refine hK _ ?_
                        clear hK K)
                      with_reducible refine wpQuiet_step (fun K hK => ?_)
                      go_simp
                      apply Exists.intro
                      refine ⟨fun p => ?_, hK _ ?_⟩
                      exact (HC.out _).mono fun e w5 ⟨he, hb⟩ => ⟨he, p.step (Nat.le_refl _) hb⟩
                      clear hK K
                      repeat (
                        with_reducible refine wpQuiet_step (fun K hK => ?_)
                        go_simp
                        refine hK _ ?_
                        clear hK K)
                      with_reducible refine wpQuiet_step (fun K hK => ?_)
                      go_simp
                      apply Exists.intro
                      refine ⟨fun p => ?_, hK _ ?_⟩
                      exact (HL.out _ (RowAt.to HA1.out p.h)).mono fun e w5 ⟨he, hb⟩ => ⟨he, p.step (Nat.le_refl _) hb⟩
                      clear hK K
                      repeat (
                        with_reducible refine wpQuiet_step (fun K hK => ?_)
                        go_simp
                        refine hK _ ?_
                        clear hK K)
                      refine wpQuiet_nil ?_
                      rintro _ ⟨p, rfl⟩
                      have c0 := X0 p; have c4 := X4 p; have c2 := T2 p
                      go_wp2_with fail
                      go_roundw
                      case rel => exact ⟨j + 1 + 1, by omega, by go_num, ⟨_, rfl, Hq'⟩, Hall, Hok, bthen (bthen hb.out Hb1.out) p.h⟩
                      case measure => simp [intOf]; omega
                  · have Hq' : Hid (((t.cols.take (j + 1 + 1)).any fun c => (c.id == t.key) && !c.nl) = true) := by show _ = _; rw [any_take Hc.out, Hq.out]; rfl
                    go_wp2_with fail
                    rw [Hw1.out]
                    refine wp_region_below w1.heap.size (by kernel_rfl) (by kernel_rfl) ?_
                    repeat (
                      with_reducible refine wpQuiet_step (fun K hK => ?_)
                      go_simp
                      refine hK _ ?_
                      clear hK K)
                    with_reducible refine wpQuiet_step (fun K hK => ?_)
                    go_simp
                    apply Exists.intro
                    refine ⟨fun p => ?_, hK _ ?_⟩
                    exact (HC.out _).mono fun e w5 ⟨he, hb⟩ => ⟨he, p.step (Nat.le_refl _) hb⟩
                    clear hK K
                    repeat (
                      with_reducible refine wpQuiet_step (fun K hK => ?_)
                      go_simp
                      refine hK _ ?_
                      clear hK K)
                    with_reducible refine wpQuiet_step (fun K hK => ?_)
                    go_simp
                    apply Exists.intro
                    refine ⟨fun p => ?_, hK _ ?_⟩
                    exact (HL.out _ (RowAt.to HA1.out p.h)).mono fun e w5 ⟨he, hb⟩ => ⟨he, p.step (Nat.le_refl _) hb⟩
                    clear hK K
                    repeat (
                      with_reducible refine wpQuiet_step (fun K hK => ?_)
                      go_simp
                      refine hK _ ?_
                      clear hK K)
                    refine wpQuiet_nil ?_
                    rintro _ ⟨p, rfl⟩
                    have c0 := X0 p; have c4 := X4 p; have c2 := T2 p
                    go_wp2_with fail
                    go_roundw
                    case rel => exact ⟨j + 1 + 1, by omega, by go_num, ⟨_, rfl, Hq'⟩, Hall, Hok, bthen (bthen hb.out Hb1.out) p.h⟩
                    case measure => simp [intOf]; omega
                · have Hno : Hid (rightCols t = false) := rightCols_no2 (dist_no_nm Hc.out hco)
                  have hie : (idxI (colI t c.nm) == ((j : Int) + 1)) = false := by have := idxI_eq (colI t c.nm) (j + 1); rw [decide_eq_false hco] at this; simpa using this
                  generalize idxI (colI t c.nm) = z at HL hie
                  clear hco
                  go_wp2_with fail
                  rw [Hw1.out]
                  refine wp_region_below w1.heap.size (by kernel_rfl) (by kernel_rfl) ?_
                  repeat (
                    with_reducible refine wpQuiet_step (fun K hK => ?_)
                    go_simp
                    refine hK _ ?_
                    clear hK K)
                  with_reducible refine wpQuiet_step (fun K hK => ?_)
                  go_simp
                  apply Exists.intro
                  refine ⟨fun p => ?_, hK _ ?_⟩
                  exact (HC.out _).mono fun e w5 ⟨he, hb⟩ => ⟨he, p.step (Nat.le_refl _) hb⟩
                  clear hK K
                  repeat (
                    with_reducible refine wpQuiet_step (fun K hK => ?_)
                    go_simp
                    refine hK _ ?_
                    clear hK K)
                  with_reducible refine wpQuiet_step (fun K hK => ?_)
                  go_simp
                  apply Exists.intro
                  refine ⟨fun p => ?_, hK _ ?_⟩
                  exact (HL.out _ (RowAt.to HA1.out p.h)).mono fun e w5 ⟨he, hb⟩ => ⟨he, p.step (Nat.le_refl _) hb⟩
                  clear hK K
                  repeat (
                    with_reducible refine wpQuiet_step (fun K hK => ?_)
                    go_simp
                    refine hK _ ?_
                    clear hK K)
                  refine wpQuiet_nil ?_
                  rintro _ ⟨p, rfl⟩
                  have c0 := X0 p; have c4 := X4 p; have c2 := T2 p
                  go_wp2_with fail
                  go_ret
                  exact ⟨by rw [Hv.out, Hno.out]; rfl, bthen Hbw1.out p.h⟩
              · have Hno : Hid (rightCols t = false) := rightCols_no2 (dist_no_id Hc.out Hy.out (of_decide_eq_true hd))
                go_wp2_with fail
                rw [Hw1.out]
                refine wp_region_below w1.heap.size (by kernel_rfl) (by kernel_rfl) ?_
                repeat (
                  with_reducible refine wpQuiet_step (fun K hK => ?_)
                  go_simp
                  refine hK _ ?_
                  clear hK K)
                with_reducible refine wpQuiet_step (fun K hK => ?_)
                go_simp
                apply Exists.intro
                refine ⟨fun p => ?_, hK _ ?_⟩
                exact (HC.out _).mono fun e w5 ⟨he, hb⟩ => ⟨he, p.step (Nat.le_refl _) hb⟩
                clear hK K
                repeat (
                  with_reducible refine wpQuiet_step (fun K hK => ?_)
                  go_simp
                  refine hK _ ?_
                  clear hK K)
                refine wpQuiet_nil ?_
                rintro _ ⟨p, rfl⟩
                have c0 := X0 p; have c4 := X4 p; have c2 := T2 p
                go_wp2_with fail
                go_ret
                exact ⟨by rw [Hv.out, Hno.out]; rfl, bthen Hbw1.out p.h⟩
          · have Hno : Hid (rightCols t = false) := rightCols_no1 Hc.out (by rw [hr]; simpa using hx)
            rw [hr] at HC
            clear hr
            go_wp2_with fail
            rw [Hw1.out]
            refine wp_region_below w1.heap.size (by kernel_rfl) (by kernel_rfl) ?_
            repeat (
              with_reducible refine wpQuiet_step (fun K hK => ?_)
              go_simp
              refine hK _ ?_
              clear hK K)
            with_reducible refine wpQuiet_step (fun K hK => ?_)
            go_simp
            apply Exists.intro
            refine ⟨fun p => ?_, hK _ ?_⟩
            exact (HC.out _).mono fun e w5 ⟨he, hb⟩ => ⟨he, p.step (Nat.le_refl _) hb⟩
            clear hK K
            repeat (
              with_reducible refine wpQuiet_step (fun K hK => ?_)
              go_simp
              refine hK _ ?_
              clear hK K)
            refine wpQuiet_nil ?_
            rintro _ ⟨p, rfl⟩
            have c0 := X0 p; have c4 := X4 p; have c2 := T2 p
            go_wp2_with fail
            go_ret
            exact ⟨by rw [Hv.out, Hno.out]; rfl, bthen Hbw1.out p.h⟩
      · have Hd : Hid (Dist Cb.id Cb.nm t.cols) := fun i hi => hok.out i (by omega)
        have Hyes : Hid (rightTab t = q) := by
          show _ = _
          rw [Hv.out, rightCols_yes (fun j c hj => hall.out j c hj (by have := (List.getElem?_eq_some_iff.1 hj).1; omega)) Hd.out, key_any Hd.out, ← Hq.out, List.take_of_length_le (by omega)]; rfl
        go_wp2_with fail
        go_ret
        exact ⟨by rw [Hyes.out]; rfl, Hbw.out⟩
end Go.Proofs.YthmjgaekcghonaaGreatDoor

/-
  Contract of the document's own Right of layer 8.
-/
namespace Go.Proofs.YthmjgaekcghonaaGreatDoor
open Go.RowKit

theorem ok_moreT {l : List Tb} {k : Nat} {x : Tb} (h : ∀ j, j < k → OkAt Tb.id Tb.nm l j) (hx : l[k]? = some x) (h1 : ∀ y, 0 < k → l[k - 1]? = some y → y.id < x.id)
    (h2 : (l.findIdx? fun y => eqS y.nm x.nm) = some k) : ∀ j, j < k + 1 → OkAt Tb.id Tb.nm l j := fun j hj => by
  by_cases e : j = k
  · subst e
    intro z hz
    rw [hx] at hz; cases hz
    exact ⟨h1, (find_ownT hx).1 h2⟩
  · exact h j (by omega)
theorem dist_no_idT {l : List Tb} {j : Nat} {x y : Tb} (hx : l[j + 1]? = some x) (hy : l[j]? = some y) (h2 : x.id ≤ y.id) : ¬ Dist Tb.id Tb.nm l := fun h => by
  have := (h (j + 1) (List.getElem?_eq_some_iff.1 hx).1 x hx).1 y (by omega) (by simpa using hy)
  omega
theorem dist_no_nmT {l : List Tb} {k : Nat} {x : Tb} (hx : l[k]? = some x) (h2 : (l.findIdx? fun y => eqS y.nm x.nm) ≠ some k) : ¬ Dist Tb.id Tb.nm l := fun h =>
  h2 ((find_ownT hx).2 (h k (List.getElem?_eq_some_iff.1 hx).1 x hx).2)
theorem rightCat_no1 {l : List Tb} {k : Nat} {x : Tb} (hx : l[k]? = some x) (h : rightTab x = false) : (l.all rightTab && tf (Dist Tb.id Tb.nm l)) = false := by
  have : l.all rightTab = false := by
    cases e : l.all rightTab with
    | false => rfl
    | true =>
      rw [List.all_eq_true] at e
      have := e x (List.mem_of_getElem? hx)
      rw [h] at this; cases this
  rw [this]; rfl

set_option maxRecDepth 100000 in
set_option maxHeartbeats 4000000 in
theorem rrcat_any (A : Option Addr) (cp : Nat) (l : List Tb) (w : World) (hA : TabsAt w w.heap.size A l) (hw : ∀ t ∈ l, WfT t) (hl : l.length ≤ 1000000) :
    Calls Tryz.prog 11 #[.agg #[.slice A l.length cp]] w fun e w' => e = .returned (.bool (rightCat l)) ∧ Below w.heap.size w w' := by
  obtain ⟨w0, hw0, hb0, hB, hs0⟩ := box_one w (.slice A l.length cp) 24
  have Hw0 := Lib.hid hw0; clear hw0
  have Hb0 := Lib.hid hb0
  have HA := Lib.hid (hA.to hb0); clear hA hb0
  have HB := Lib.hid hB.one; clear hB
  have Hs0 := Lib.hid hs0; clear hs0
  have HW := Lib.hid hw; clear hw
  have Hv : Hid (rightCat l = (decide ((l.length : Int) ≤ 6) && (l.all rightTab && tf (Dist Tb.id Tb.nm l)))) := rfl
  have e1 : decide (6 < (l.length : Int)) = !decide ((l.length : Int) ≤ 6) := by apply bool_eq; simp
  generalize decide ((l.length : Int) ≤ 6) = b1 at Hv e1
  cases b1
  · replace e1 : decide (6 < (l.length : Int)) = true := e1
    go_enter Tryz.func11, Tryz.ntmps11
    go_wp2_with fail
    go_ret
    exact ⟨by rw [Hv.out]; rfl, by go_grown⟩
  replace e1 : decide (6 < (l.length : Int)) = false := e1
  go_enter Tryz.func11, Tryz.ntmps11
  go_wp2_with fail
  rw [Hw0.out]
  replace Hv : Hid (rightCat l = (l.all rightTab && tf (Dist Tb.id Tb.nm l))) := by show _ = _; rw [Hv.out]; simp
  clear e1
  go_loopw [3] (fun i wr => ∃ k : Nat, k ≤ l.length ∧ i = .int .i64 k ∧ Hid (∀ j c, l[j]? = some c → j < k → rightTab c = true) ∧ Hid (∀ j, j < k → OkAt Tb.id Tb.nm l j) ∧ Hid (Below w0.heap.size w0 wr)) (fun i _ => l.length - (intOf i).toNat)
  case atStart => exact ⟨0, by omega, rfl, fun j v _ h => absurd h (by omega), fun j h => absurd h (by omega), Below.refl _ _⟩
  case round =>
    obtain ⟨k, hk, rfl, hall, hok, hb⟩ := hrel
    have Hbw := Lib.hid (bthen Hb0.out hb.out)
    have c0 : wr.cell? ⟨w.heap.size, 0, none⟩ = some (.slice A l.length cp) := (hb.out.cell (by have := Hs0.out; simp; omega)).trans HB.out
    by_cases hlt : k < l.length
    · obtain ⟨x, hx⟩ : ∃ x, l[k]? = some x := ⟨l[k], by simp [hlt]⟩
      have Hx := Lib.hid hx
      obtain ⟨b, off, hAe, hbB, d0, d1, d2, d3, d4⟩ := (HA.out.below hb.out).get k x hx
      rw [hAe] at c0
      obtain ⟨w1, hw1, hb1, hX, hs1⟩ := box_tab wr x
      have Hw1 := Lib.hid hw1; clear hw1
      have Hs1 := Lib.hid hs1; clear hs1
      have HX := Lib.hid hX; clear hX
      have Hb1 := Lib.hid hb1
      have HA1 := Lib.hid ((HA.out.to hb.out).to hb1)
      have Hbw1 := Lib.hid (bthen Hbw.out hb1); clear hb1
      have HC := Lib.hid (fun w' hA' => rrtab_any x w' (HW.out x (List.mem_of_getElem? hx)) hA')
      have Hxm := Lib.hid (List.mem_of_getElem? hx)
      clear hx
      have Hblt : Hid (b < wr.heap.size) := by show _ < _; have := hb.out.size; omega
      have Htlt : Hid (w.heap.size < wr.heap.size) := by show _ < _; have := hb.out.size; have := Hs0.out; omega
      have HL : Hid (∀ w' : World, TabsAt w' w'.heap.size A l → Calls Tryz.prog 24 #[.agg #[.slice (some ⟨b, off, none⟩) l.length cp], .string x.nm] w' fun e w2 => e = .returned (.int .i64 (idxI (l.findIdx? fun y => eqS y.nm x.nm))) ∧ Below w'.heap.size w' w2) := fun w' hA' => by
        have := rfind_any A cp l x.nm w' hA' hl
        rw [hAe] at this
        exact this
      have HAe := Lib.hid hAe; clear hAe
      have hne : Nonempty (BelowBy w1.heap.size w1) := ⟨⟨w1, Below.refl _ _⟩⟩
      have X0 : ∀ p : BelowBy w1.heap.size w1, p.x.cell? ⟨wr.heap.size, 0, none⟩ = some (.int .i64 x.id) := fun p => (p.h.cell (by have := Hs1.out; simp; omega)).trans (HX.out 0 _ rfl)
      have X1 : ∀ p : BelowBy w1.heap.size w1, p.x.cell? ⟨wr.heap.size, 1, none⟩ = some (.string x.nm) := fun p => (p.h.cell (by have := Hs1.out; simp; omega)).trans (HX.out 1 _ rfl)
      have X2 : ∀ p : BelowBy w1.heap.size w1, p.x.cell? ⟨wr.heap.size, 2, none⟩ = some (.int .i64 x.key) := fun p => (p.h.cell (by have := Hs1.out; simp; omega)).trans (HX.out 2 _ rfl)
      have X3 : ∀ p : BelowBy w1.heap.size w1, p.x.cell? ⟨wr.heap.size, 3, none⟩ = some (.int .i64 x.nx) := fun p => (p.h.cell (by have := Hs1.out; simp; omega)).trans (HX.out 3 _ rfl)
      have X4 : ∀ p : BelowBy w1.heap.size w1, p.x.cell? ⟨wr.heap.size, 4, none⟩ = some (.slice x.A x.cols.length x.cap) := fun p => (p.h.cell (by have := Hs1.out; simp; omega)).trans (HX.out 4 _ rfl)
      have T0 : ∀ p : BelowBy w1.heap.size w1, p.x.cell? ⟨w.heap.size, 0, none⟩ = some (.slice (some ⟨b, off, none⟩) l.length cp) := fun p => (p.h.cell (by have := Hs1.out; have := Htlt.out; simp; omega)).trans ((Hb1.out.cell (p := ⟨w.heap.size, 0, none⟩) Htlt.out).trans c0)
      cases hr : rightTab x
      · have Hno : Hid ((l.all rightTab && tf (Dist Tb.id Tb.nm l)) = false) := rightCat_no1 Hx.out hr
        rw [hr] at HC
        clear hr
        go_wp2_with fail
        rw [Hw1.out]
        refine wp_region_below w1.heap.size (by kernel_rfl) (by kernel_rfl) ?_
        repeat (
          with_reducible refine wpQuiet_step (fun K hK => ?_)
          go_simp
          refine hK _ ?_
          clear hK K)
        with_reducible refine wpQuiet_step (fun K hK => ?_)
        go_simp
        apply Exists.intro
        refine ⟨fun p => ?_, hK _ ?_⟩
        exact (HC.out _ ((HA1.out.to p.h).2 x Hxm.out)).mono fun e w5 ⟨he, hb⟩ => ⟨he, p.step (Nat.le_refl _) hb⟩
        clear hK K
        repeat (
          with_reducible refine wpQuiet_step (fun K hK => ?_)
          go_simp
          refine hK _ ?_
          clear hK K)
        refine wpQuiet_nil ?_
        rintro _ ⟨p, rfl⟩
        go_wp2_with fail
        go_ret
        exact ⟨by rw [Hv.out, Hno.out]; rfl, bthen Hbw1.out p.h⟩
      · have Hcc := Lib.hid hr
        rw [hr] at HC
        clear hr
        by_cases hk0 : k = 0
        · subst hk0
          simp only [Nat.zero_mul, Nat.add_zero] at d0 d1 d2 d3 d4
          have Hco : Hid ((l.findIdx? fun y => eqS y.nm x.nm) = some 0) := find_at (fun j x _ h => absurd h (by omega)) Hx.out (eqS_self _)
          have Hok : Hid (∀ j, j < 0 + 1 → OkAt Tb.id Tb.nm l j) := ok_moreT hok.out Hx.out (fun y h _ => absurd h (by omega)) Hco.out
          have hie : idxI (l.findIdx? fun y => eqS y.nm x.nm) = 0 := by rw [Hco.out]; rfl
          rw [hie] at HL
          clear hie
          have Hall : Hid (∀ i d, l[i]? = some d → i < 0 + 1 → rightTab d = true) := fun i d hj hk => by
            by_cases e : i = 0
            · subst e
              rw [Hx.out] at hj
              cases hj
              exact Hcc.out
            · exact hall.out i d hj (by omega)
          go_wp2_with fail
          rw [Hw1.out]
          refine wp_region_below w1.heap.size (by kernel_rfl) (by kernel_rfl) ?_
          repeat (
            with_reducible refine wpQuiet_step (fun K hK => ?_)
            go_simp
            refine hK _ ?_
            clear hK K)
          with_reducible refine wpQuiet_step (fun K hK => ?_)
          go_simp
          apply Exists.intro
          refine ⟨fun p => ?_, hK _ ?_⟩
          exact (HC.out _ ((HA1.out.to p.h).2 x Hxm.out)).mono fun e w5 ⟨he, hb⟩ => ⟨he, p.step (Nat.le_refl _) hb⟩
          clear hK K
          repeat (
            with_reducible refine wpQuiet_step (fun K hK => ?_)
            go_simp
            refine hK _ ?_
            clear hK K)
          with_reducible refine wpQuiet_step (fun K hK => ?_)
          go_simp
          apply Exists.intro
          refine ⟨fun p => ?_, hK _ ?_⟩
          exact (HL.out _ (HA1.out.to p.h)).mono fun e w5 ⟨he, hb⟩ => ⟨he, p.step (Nat.le_refl _) hb⟩
          clear hK K
          repeat (
            with_reducible refine wpQuiet_step (fun K hK => ?_)
            go_simp
            refine hK _ ?_
            clear hK K)
          refine wpQuiet_nil ?_
          rintro _ ⟨p, rfl⟩
          go_wp2_with fail
          go_roundw
          case rel => exact ⟨0 + 1, by omega, by go_num, Hall, Hok, bthen (bthen hb.out Hb1.out) p.h⟩
          case measure => simp [intOf]; omega
        · obtain ⟨j, rfl⟩ : ∃ j, k = j + 1 := ⟨k - 1, by omega⟩
          clear hk0
          obtain ⟨y, hy⟩ : ∃ y, l[j]? = some y := ⟨l[j]'(by omega), by simp [show j < l.length by omega]⟩
          have Hy := Lib.hid hy
          obtain ⟨b', off', e', _, y0, _⟩ := (HA.out.below hb.out).get j y hy
          rw [HAe.out] at e'
          cases e'
          clear hy
          have Y0 : ∀ p : BelowBy w1.heap.size w1, p.x.cell? ⟨b, off + j * 5, none⟩ = some (.int .i64 y.id) := fun p => (p.h.cell (by have := Hs1.out; have := Hblt.out; simp; omega)).trans ((Hb1.out.cell (p := ⟨b, off + j * 5, none⟩) Hblt.out).trans y0)
          have hwj : IntKind.i64.wrap (j : Int) = (j : Int) := by rw [IntKind.wrap_i64]; omega
          have hj0 : (0 : Int) ≤ (j : Int) := by omega
          have hjl : (j : Int) < (l.length : Int) := by omega
          cases hd : decide (x.id ≤ y.id)
          · have Hlt : Hid (y.id < x.id) := by have h := of_decide_eq_false hd; show _ < _; omega
            have Hpr : Hid (∀ z, 0 < j + 1 → l[j + 1 - 1]? = some z → z.id < x.id) := fun z _ hz => by
              rw [show j + 1 - 1 = j by omega, Hy.out] at hz
              cases hz
              exact Hlt.out
            by_cases hco : (l.findIdx? fun y => eqS y.nm x.nm) = some (j + 1)
            · have Hco := Lib.hid hco
              have Hok : Hid (∀ i, i < j + 1 + 1 → OkAt Tb.id Tb.nm l i) := ok_moreT hok.out Hx.out Hpr.out Hco.out
              have hie : idxI (l.findIdx? fun y => eqS y.nm x.nm) = ((j + 1 : Nat) : Int) := by rw [Hco.out]; rfl
              rw [hie] at HL
              clear hie hco
              have Hall : Hid (∀ i d, l[i]? = some d → i < j + 1 + 1 → rightTab d = true) := fun i d hj hk => by
                by_cases e : i = j + 1
                · subst e
                  rw [Hx.out] at hj
                  cases hj
                  exact Hcc.out
                · exact hall.out i d hj (by omega)
              go_wp2_with fail
              rw [Hw1.out]
              refine wp_region_below w1.heap.size (by kernel_rfl) (by kernel_rfl) ?_
              repeat (
                with_reducible refine wpQuiet_step (fun K hK => ?_)
                go_simp
                refine hK _ ?_
                clear hK K)
              with_reducible refine wpQuiet_step (fun K hK => ?_)
              go_simp
              apply Exists.intro
              refine ⟨fun p => ?_, hK _ ?_⟩
              exact (HC.out _ ((HA1.out.to p.h).2 x Hxm.out)).mono fun e w5 ⟨he, hb⟩ => ⟨he, p.step (Nat.le_refl _) hb⟩
              clear hK K
              repeat (
                with_reducible refine wpQuiet_step (fun K hK => ?_)
                go_simp
                refine hK _ ?_
                clear hK K)
              with_reducible refine wpQuiet_step (fun K hK => ?_)
              go_simp
              apply Exists.intro
              refine ⟨fun p => ?_, hK _ ?_⟩
              exact (HL.out _ (HA1.out.to p.h)).mono fun e w5 ⟨he, hb⟩ => ⟨he, p.step (Nat.le_refl _) hb⟩
              clear hK K
              repeat (
                with_reducible refine wpQuiet_step (fun K hK => ?_)
                go_simp
                refine hK _ ?_
                clear hK K)
              refine wpQuiet_nil ?_
              rintro _ ⟨p, rfl⟩
              go_wp2_with fail
              go_roundw
              case rel => exact ⟨j + 1 + 1, by omega, by go_num, Hall, Hok, bthen (bthen hb.out Hb1.out) p.h⟩
              case measure => simp [intOf]; omega
            · have Hno : Hid ((l.all rightTab && tf (Dist Tb.id Tb.nm l)) = false) := by show _ = _; rw [tf_no (dist_no_nmT Hx.out hco), Bool.and_false]
              have hie : (idxI (l.findIdx? fun y => eqS y.nm x.nm) == ((j : Int) + 1)) = false := by have := idxI_eq (l.findIdx? fun y => eqS y.nm x.nm) (j + 1); rw [decide_eq_false hco] at this; simpa using this
              generalize idxI (l.findIdx? fun y => eqS y.nm x.nm) = z at HL hie
              clear hco
              go_wp2_with fail
              rw [Hw1.out]
              refine wp_region_below w1.heap.size (by kernel_rfl) (by kernel_rfl) ?_
              repeat (
                with_reducible refine wpQuiet_step (fun K hK => ?_)
                go_simp
                refine hK _ ?_
                clear hK K)
              with_reducible refine wpQuiet_step (fun K hK => ?_)
              go_simp
              apply Exists.intro
              refine ⟨fun p => ?_, hK _ ?_⟩
              exact (HC.out _ ((HA1.out.to p.h).2 x Hxm.out)).mono fun e w5 ⟨he, hb⟩ => ⟨he, p.step (Nat.le_refl _) hb⟩
              clear hK K
              repeat (
                with_reducible refine wpQuiet_step (fun K hK => ?_)
                go_simp
                refine hK _ ?_
                clear hK K)
              with_reducible refine wpQuiet_step (fun K hK => ?_)
              go_simp
              apply Exists.intro
              refine ⟨fun p => ?_, hK _ ?_⟩
              exact (HL.out _ (HA1.out.to p.h)).mono fun e w5 ⟨he, hb⟩ => ⟨he, p.step (Nat.le_refl _) hb⟩
              clear hK K
              repeat (
                with_reducible refine wpQuiet_step (fun K hK => ?_)
                go_simp
                refine hK _ ?_
                clear hK K)
              refine wpQuiet_nil ?_
              rintro _ ⟨p, rfl⟩
              go_wp2_with fail
              go_ret
              exact ⟨by rw [Hv.out, Hno.out]; rfl, bthen Hbw1.out p.h⟩
          · have Hno : Hid ((l.all rightTab && tf (Dist Tb.id Tb.nm l)) = false) := by show _ = _; rw [tf_no (dist_no_idT Hx.out Hy.out (of_decide_eq_true hd)), Bool.and_false]
            go_wp2_with fail
            rw [Hw1.out]
            refine wp_region_below w1.heap.size (by kernel_rfl) (by kernel_rfl) ?_
            repeat (
              with_reducible refine wpQuiet_step (fun K hK => ?_)
              go_simp
              refine hK _ ?_
              clear hK K)
            with_reducible refine wpQuiet_step (fun K hK => ?_)
            go_simp
            apply Exists.intro
            refine ⟨fun p => ?_, hK _ ?_⟩
            exact (HC.out _ ((HA1.out.to p.h).2 x Hxm.out)).mono fun e w5 ⟨he, hb⟩ => ⟨he, p.step (Nat.le_refl _) hb⟩
            clear hK K
            repeat (
              with_reducible refine wpQuiet_step (fun K hK => ?_)
              go_simp
              refine hK _ ?_
              clear hK K)
            refine wpQuiet_nil ?_
            rintro _ ⟨p, rfl⟩
            go_wp2_with fail
            go_ret
            exact ⟨by rw [Hv.out, Hno.out]; rfl, bthen Hbw1.out p.h⟩
    · have Hyes : Hid (rightCat l = true) := by
        show _ = _
        rw [Hv.out, tf_yes (show Dist Tb.id Tb.nm l from fun i hi => hok.out i (by omega)), all_at (fun j c hj => hall.out j c hj (by have := (List.getElem?_eq_some_iff.1 hj).1; omega))]; rfl
      go_wp2_with fail
      go_ret
      exact ⟨by rw [Hyes.out]; rfl, Hbw.out⟩
end Go.Proofs.YthmjgaekcghonaaGreatDoor

/-
  What the document's own Apply of layer 9 makes step by step: boxes, the tables made so far, where a new table stands.
-/
namespace Go.Proofs.YthmjgaekcghonaaGreatDoor
open Go.RowKit

/-- a catalog in its box -/
def CtBox (w : World) (b : Nat) (v : Value) : Prop := w.heap[b]? = some (.cells #[v] 24 (0, 0))
theorem CtBox.cell {w : World} {b : Nat} {v : Value} (h : CtBox w b v) : w.cell? ⟨b, 0, none⟩ = some v := by rw [cell_of_row w b 0 _ _ (0, 0) h]; rfl
theorem CtBox.frozen {w : World} {b : Nat} {v : Value} (h : CtBox w b v) : w.frozen? ⟨b, 0, none⟩ = false := frozen_of_row w b 0 _ _ h
theorem CtBox.lt {w : World} {b : Nat} {v : Value} (h : CtBox w b v) : b < w.heap.size := (Array.getElem?_eq_some_iff.1 h).1
theorem CtBox.below {w w' : World} {b B : Nat} {v : Value} (h : CtBox w b v) (hb : Below B w w') (hB : b < B) : CtBox w' b v := (hb.block b hB).trans h
theorem CtBox.off {S : Nat → Prop} {w w' : World} {b : Nat} {v : Value} (h : CtBox w b v) (hw : Off S w w') (hn : ¬ S b) : CtBox w' b v := (hw.block b h.lt hn).trans h
theorem CtBox.set {w : World} {b : Nat} {v : Value} (h : CtBox w b v) (u : Value) : CtBox (w.setCell ⟨b, 0, none⟩ u) b u := by
  have := heap_setCell_same w b 0 #[v] 24 u h
  show (w.setCell ⟨b, 0, none⟩ u).heap[b]? = _
  simpa using this
/-- the boxes of the parameters, the result and the local catalog -/
theorem box_app (w : World) (v : Value) (d : Db) : ∃ w0, (((w.alloc (.cells #[v] 24)).alloc (.cells #[.int .i64 d.p.op, .string d.p.tb, .string d.p.co, .string d.p.to, .string d.p.key, .int .i64 d.p.tk, .int .i64 d.p.tm, .bool d.p.nl, .int .i64 d.p.dk, .int .i64 d.p.dn, .string d.p.ds, .slice d.A d.p.cols.length d.cap] 31)).alloc (.cells #[.slice none 0 0] 24)).alloc (.cells #[.slice none 0 0] 24) = w0 ∧
    Below w.heap.size w w0 ∧ BlkN w0 w.heap.size [v] ∧ BlkN w0 (w.heap.size + 1) (fD d) ∧ CtBox w0 (w.heap.size + 1 + 1) (.slice none 0 0) ∧ CtBox w0 (w.heap.size + 1 + 1 + 1) (.slice none 0 0) ∧ w0.heap.size = w.heap.size + 4 := by
  have h2 := below_two w (.cells #[v] 24) (.cells (fD d).toArray 31)
  have e2 : ((w.alloc (.cells #[v] 24)).alloc (.cells (fD d).toArray 31)).heap.size = w.heap.size + 1 + 1 := by simp
  obtain ⟨u2, hu2⟩ : ∃ u2, (w.alloc (.cells #[v] 24)).alloc (.cells (fD d).toArray 31) = u2 := ⟨_, rfl⟩
  have b0 : BlkN u2 w.heap.size [v] := by rw [← hu2]; exact (BlkN.new w _ [v] _ rfl).alloc (by simp) _
  have b1 : BlkN u2 (w.heap.size + 1) (fD d) := by rw [← hu2]; exact BlkN.new _ _ (fD d) _ (by simp)
  rw [hu2] at h2 e2
  have h3 := below_two u2 (.cells #[.slice none 0 0] 24) (.cells #[.slice none 0 0] 24)
  refine ⟨(u2.alloc (.cells #[.slice none 0 0] 24)).alloc (.cells #[.slice none 0 0] 24), by rw [← hu2]; rfl, bthen h2 h3, b0.below h3 (by omega), b1.below h3 (by omega), ?_, ?_, by simp; omega⟩
  · have h4 := heap_alloc_new u2 (.cells #[.slice none 0 0] 24)
    rw [e2] at h4
    exact CtBox.below h4 (below_one _ _) (by simp; omega)
  · have h4 := heap_alloc_new (u2.alloc (.cells #[.slice none 0 0] 24)) (.cells #[.slice none 0 0] 24)
    have e3 : (u2.alloc (.cells #[.slice none 0 0] 24)).heap.size = w.heap.size + 1 + 1 + 1 := by simp; omega
    rw [e3] at h4
    exact h4
/-- how the document's Apply ends -/
def ApplyEnd (L : List Tp) (d : Dp) (id : Int) (w : World) (e : Ending) (w' : World) : Prop := ∃ A' cap' l', e = .returned (.tuple #[.agg #[.slice A' (List.length l') cap'], .int .i64 (applyE L d id)]) ∧ CatAt w' A' cap' l' ∧ l'.map Tb.p = applyO L d id ∧ Below w.heap.size w w'
theorem ApplyEnd.bad {L : List Tp} {d : Dp} {id : Int} {w w' : World} {E : Int} (hE : applyE L d id = E) (h : E ≠ 0) (hb : Below w.heap.size w w') : ApplyEnd L d id w (.returned (.tuple #[.agg #[.slice none 0 0], .int .i64 E])) w' :=
  ⟨none, 0, [], by rw [hE]; rfl, ⟨⟨fun h => absurd h (by simp), by simp⟩, Nat.le_refl _, by simp⟩, by unfold applyO; rw [if_neg (by rw [hE]; exact h)]; rfl, hb⟩
theorem own_apart {α β : Type} {T T' : TypeId} {m m' : Nat} {f : α → List Value} {f' : β → List Value} {w : World} {B B' : Nat} {v v' : Value} {l : List α} {l' : List β} (h : OwnR T m f w B v l) (h' : OwnR T' m' f' w B' v' l') (hT : T ≠ T') {x : Nat} (hx : v.ownBlock = some x) : v'.ownBlock ≠ some x := fun hx' => by
  rcases h.2 with ⟨rfl, _⟩ | ⟨g, cap, cur, rfl, _, hg, _⟩
  · cases hx
  · rcases h'.2 with ⟨rfl, _⟩ | ⟨g', cap', cur', rfl, _, hg', _⟩
    · cases hx'
    · simp [Value.ownBlock] at hx hx'
      subst hx hx'
      rw [hg] at hg'
      simp at hg'
      exact hT hg'.2
/-- columns that lie where they lay, or in a row of the call's own -/
def TabOk (w0 w : World) (B : Nat) (t : Tb) : Prop := (ColsAt w B t.A t.cols ∧ t.cols.length ≤ t.cap) ∨ OwnC w w0.heap.size (.slice t.A t.cols.length t.cap) t.cols
/-- the tables made so far: the row in the local catalog -/
structure Made (w0 w : World) (B b : Nat) (A : Option Addr) (k : Nat) (m : List Tb) : Prop where
  box : CtBox w b (.slice A m.length k)
  row : OwnTb w w0.heap.size (.slice A m.length k) m
  tabs : ∀ t ∈ m, TabOk w0 w B t
  below : Below b w0 w
theorem TabOk.to {w0 w w' : World} {B : Nat} {t : Tb} (h : TabOk w0 w B t) (hb : Below w.heap.size w w') (hB : B ≤ w.heap.size) : TabOk w0 w' B t := h.imp (fun h => ⟨RowAt.below h.1 (hb.mono hB), h.2⟩) fun h => h.below hb
theorem Made.to {w0 w w' : World} {B b : Nat} {A : Option Addr} {k : Nat} {m : List Tb} (h : Made w0 w B b A k m) (hb : Below w.heap.size w w') (hB : B ≤ b) (h0 : b < w0.heap.size) : Made w0 w' B b A k m :=
  have hs := h.below.size
  ⟨h.box.below hb h.box.lt, h.row.below hb, fun t ht => (h.tabs t ht).to hb (by omega), h.below.trans (hb.mono (by omega))⟩
theorem Made.app {w0 w5 w6 : World} {B b : Nat} {A A2 : Option Addr} {k k2 : Nat} {m : List Tb} {u : Tb} (h : Made w0 w5 B b A k m) (hB : B ≤ b) (h0 : b < w0.heap.size) (hof : Off (fun x => (Value.slice A m.length k).ownBlock = some x) w5 w6)
    (ho6 : OwnTb w6 w0.heap.size (.slice A2 (m ++ [u]).length k2) (m ++ [u])) (hu : TabOk w0 w5 B u) : Made w0 (w6.setCell ⟨b, 0, none⟩ (.slice A2 (m ++ [u]).length k2)) B b A2 k2 (m ++ [u]) := by
  have hs := h.below.size
  have hset := Off.set w6 b 0 (.slice A2 (m ++ [u]).length k2)
  have hlow : Below b w5 w6 := hof.below (fun x _ hx => by have := (h.row.lt x hx).1; omega) (by omega)
  refine ⟨(h.box.off hof fun hx => by have := (h.row.lt b hx).1; omega).set _, OwnR.off ho6 hset fun x hx e => by have := (ho6.lt x hx).1; omega, fun t ht => ?_, bput (h.below.trans hlow) (Nat.le_refl _) 0 _⟩
  have ht5 : TabOk w0 w5 B t := by
    rcases List.mem_append.1 ht with q | q
    · exact h.tabs t q
    · obtain rfl : t = u := by simpa using q
      exact hu
  refine ht5.imp (fun q => ⟨RowAt.below q.1 (bput (hlow.mono hB) hB 0 _), q.2⟩) fun q => ?_
  refine (q.off hof fun x hx e => own_apart h.row q (by decide) e hx).off hset fun x hx e => ?_
  have := (q.lt x hx).1
  omega
theorem Made.cat {w0 w : World} {B b : Nat} {A : Option Addr} {k : Nat} {m : List Tb} (h : Made w0 w B b A k m) (hB : B ≤ b) (h0 : b < w0.heap.size) : CatAt w A k m := by
  have hs := h.below.size
  refine ⟨⟨h.row.at lenT, fun t ht => ?_⟩, ?_, fun t ht => ?_⟩
  · rcases h.tabs t ht with q | q
    · exact RowAt.more q.1 (by omega)
    · exact q.at lenC
  · obtain ⟨_, _, e, h1, _, _⟩ := h.row.form
    cases e; exact h1
  · rcases h.tabs t ht with q | q
    · exact q.2
    · obtain ⟨_, _, e, h1, _, _⟩ := q.form
      cases e; exact h1
/-- is the new table put ahead of place n? -/
def Sit (l : List Tb) (id : Int) (n : Nat) (put : Bool) : Prop :=
  (put = true ∧ (∀ t ∈ (l.map Tb.p).take n, t.id < id) ∧ ∀ t, l[n]? = some t → id < t.id) ∨ (put = false ∧ ((∃ t, l[n]? = some t ∧ t.id < id) ∨ ∃ y, 0 < n ∧ l[n - 1]? = some y ∧ id < y.id))
theorem take_low {L : List Tp} {id : Int} {n : Nat} {u : Tp} (hp : L.Pairwise (Apart Tp.id Tp.nm)) (hu : L[n]? = some u) (h : u.id < id) : ∀ t ∈ L.take (n + 1), t.id < id := fun t ht => by
  obtain ⟨j, hj⟩ := List.mem_iff_getElem?.1 ht
  rw [List.getElem?_take] at hj
  split at hj
  · rename_i hjn
    rw [List.pairwise_iff_getElem] at hp
    obtain ⟨h1, e1⟩ := List.getElem?_eq_some_iff.1 hj
    obtain ⟨h2, e2⟩ := List.getElem?_eq_some_iff.1 hu
    by_cases e : j = n
    · subst e; rw [e1] at e2; rw [e2]; exact h
    · have := (hp j n h1 h2 (by omega)).1
      rw [e1, e2] at this; omega
  · cases hj
theorem insT_len {u : Tp} : ∀ {l : List Tp}, (insT u l).length = l.length + 1
  | [] => rfl
  | x :: r => by
    unfold insT
    split
    · simp
    · rw [List.length_cons, insT_len, List.length_cons]
theorem InsAt.len {L : List Tp} {u : Tp} {i : Nat} {m : List Tp} (h : InsAt L u i m) : m.length ≤ i + 1 := by
  rcases h with ⟨_, rfl⟩ | ⟨_, _, _, _, rfl⟩
  · have := List.length_take_le i L; omega
  · rw [insT_len]; have := List.length_take_le i L; omega
theorem casts_of {L : List Tp} {t : Tb} {d : Dp} (ht : RightT t.p) (he : wrongE L t.p d = 0) : CastsD t d := fun e c hc hn => by
  obtain ⟨_, _, _, _, _, t6, t7, _⟩ := ht
  cases hx : colV t.cols d.co with
  | none =>
    have := wrong_none (l := L) (t := t.p) (d := d) (by omega) hx
    rw [this] at he; cases he
  | some x =>
    obtain ⟨hxm, hxn⟩ := colV_some hx
    have hw := wrong_some (l := L) (t := t.p) (d := d) (by omega) hx
    rw [he] at hw
    have : c = x := apart_nm t7 hc hxm (by rw [hn, hxn])
    subst this
    refine ⟨((rightC_iff _).1 (t6 c hc).1).2.2.2.2, ?_⟩
    simp only [e] at hw
    simp at hw
    cases h : rightT d.tk d.tm with
    | false => rw [h] at hw; cases hw
    | true =>
      cases h2 : wideT d.tk d.tm c.tk c.tm with
      | true => rfl
      | false => rw [h, h2] at hw; cases hw
theorem applyR_chg {L : List Tp} {d : Dp} {id : Int} {k : Nat} {t : Tp} (h1 : d.op ≠ 1) (hf : findT L d.tb = some k) (ht : L[k]? = some t) : applyR L d id = chgAt L k (if d.op = 2 then none else some (tableD t d)) L.length := by
  unfold applyR chgAt
  rw [if_neg h1, hf]
  by_cases e : d.op = 2
  · simp [e]
  · simp [e, ht]
theorem map_at {l : List Tb} {k : Nat} {t : Tp} (h : (l.map Tb.p)[k]? = some t) : ∃ u, l[k]? = some u ∧ u.p = t := by
  rw [List.getElem?_map] at h
  cases hu : l[k]? with
  | none => rw [hu] at h; cases h
  | some u => rw [hu] at h; cases h; exact ⟨u, rfl, rfl⟩
end Go.Proofs.YthmjgaekcghonaaGreatDoor

/-
  How changes one behind the other end (layer 9): what both All answer, and plain facts of it.
-/
namespace Go.Proofs.YthmjgaekcghonaaGreatDoor
open Go.RowKit

theorem drop_one {α : Type} {l : List α} {n : Nat} {x : α} (h : l[n]? = some x) : l.drop n = x :: l.drop (n + 1) := by
  obtain ⟨h1, rfl⟩ := List.getElem?_eq_some_iff.1 h
  exact List.drop_eq_getElem_cons h1
theorem drop_map {l : List Db} {n : Nat} {d : Db} (h : l[n]? = some d) : (l.map Db.p).drop n = d.p :: (l.map Db.p).drop (n + 1) := drop_one (by rw [List.getElem?_map, h]; rfl)
theorem allD_big {L : List Tp} {f : Int} {i : Nat} {d : Dp} {r : List Dp} (h : 9223372036854775807 - (i : Int) < f) : allD L f i (d :: r) = ([], i, 2) := by
  unfold allD; rw [if_pos h]
theorem allD_err {L : List Tp} {f : Int} {i : Nat} {d : Dp} {r : List Dp} {E : Int} (h : ¬ 9223372036854775807 - (i : Int) < f) (hE : applyE L d (f + i) = E) (h0 : E ≠ 0) : allD L f i (d :: r) = ([], i, E) := by
  unfold allD; rw [if_neg h, hE, if_neg h0]
theorem allD_ok {L : List Tp} {f : Int} {i : Nat} {d : Dp} {r : List Dp} (h : ¬ 9223372036854775807 - (i : Int) < f) (h0 : applyE L d (f + i) = 0) : allD L f i (d :: r) = allD (applyR L d (f + i)) f (i + 1) r := by
  rw [allD, if_neg h, if_pos h0]
/-- how All ends -/
def AllEnd (R : List Tp × Nat × Int) (w : World) (e : Ending) (w' : World) : Prop := ∃ A' cap' l', e = .returned (.tuple #[.agg #[.slice A' (List.length l') cap'], .int .i64 (R.2.1 : Int), .int .i64 R.2.2]) ∧ CatAt w' A' cap' l' ∧ l'.map Tb.p = R.1 ∧ (l'.length ≤ 1000000 ∧ ∀ t ∈ l', WfT t) ∧ Below w.heap.size w w'
theorem AllEnd.bad {R : List Tp × Nat × Int} {w w' : World} {n : Nat} {E : Int} (hR : R = ([], n, E)) (hb : Below w.heap.size w w') : AllEnd R w (.returned (.tuple #[.agg #[.slice none 0 0], .int .i64 (n : Int), .int .i64 E])) w' := by
  subst hR
  exact ⟨none, 0, [], rfl, ⟨⟨fun h => absurd h (by simp), by simp⟩, Nat.le_refl _, by simp⟩, rfl, ⟨Nat.zero_le _, by simp⟩, hb⟩
theorem AllEnd.good {f : Int} {n N : Nat} {r : List Dp} {R : List Tp × Nat × Int} {w w' : World} {A : Option Addr} {k : Nat} {l : List Tb} (hR : R = allD (l.map Tb.p) f n r) (hr : r = []) (hN : n = N) (hc : CatAt w' A k l) (hl : l.length ≤ 1000000) (hw : ∀ t ∈ l, WfT t) (hb : Below w.heap.size w w') :
    AllEnd R w (.returned (.tuple #[.agg #[.slice A l.length k], .int .i64 (N : Int), .int .i64 0])) w' := by
  subst hr hN hR
  exact ⟨A, k, l, rfl, hc, rfl, ⟨hl, hw⟩, hb⟩
/-- the boxes of a catalog and a result -/
theorem box_al (w : World) (v : Value) : ∃ w0, (w.alloc (.cells #[v] 24)).alloc (.cells #[.slice none 0 0] 24) = w0 ∧ Below w.heap.size w w0 ∧ CtBox w0 w.heap.size v ∧ CtBox w0 (w.heap.size + 1) (.slice none 0 0) ∧ w0.heap.size = w.heap.size + 2 := by
  refine ⟨_, rfl, below_two w _ _, ?_, ?_, by simp⟩
  · exact CtBox.below (heap_alloc_new w _) (below_one _ _) (by simp)
  · have h := heap_alloc_new (w.alloc (.cells #[v] 24)) (.cells #[.slice none 0 0] 24)
    have e : (w.alloc (.cells #[v] 24)).heap.size = w.heap.size + 1 := by simp
    rw [e] at h
    exact h
theorem CatAt.to {w w' : World} {A : Option Addr} {k : Nat} {l : List Tb} (h : CatAt w A k l) (hb : Below w.heap.size w w') : CatAt w' A k l := ⟨h.1.to hb, h.2⟩
theorem wf_p {l m : List Tb} (h : m.map Tb.p = l.map Tb.p) (hw : ∀ t ∈ l, WfT t) (hc : ∀ t ∈ m, t.cols.length ≤ t.cap) : ∀ t ∈ m, WfT t := fun t ht => by
  have h1 : t.p ∈ l.map Tb.p := by rw [← h]; exact List.mem_map.2 ⟨t, ht, rfl⟩
  obtain ⟨u, hu, e⟩ := List.mem_map.1 h1
  have h2 := hw u hu
  have en : u.nm = t.nm := congrArg Tp.nm e
  have ec : u.cols = t.cols := congrArg Tp.cols e
  exact ⟨by rw [← en]; exact h2.1, by rw [← ec]; exact h2.2.1, hc t ht, by rw [← ec]; exact h2.2.2.2⟩
end Go.Proofs.YthmjgaekcghonaaGreatDoor

/-
  The document's own Apply of layer 9 where a catalog is not right, a change is not plain, or a number is negative.
-/
namespace Go.Proofs.YthmjgaekcghonaaGreatDoor
open Go.RowKit

set_option maxRecDepth 100000 in
set_option maxHeartbeats 12800000 in
theorem rapply_bad (A : Option Addr) (cp : Nat) (l : List Tb) (d : Db) (id : Int) (w : World) (hA : TabsAt w w.heap.size A l) (hw : ∀ t ∈ l, WfT t) (hl : l.length ≤ 1000000) (hD : DdlAt w w.heap.size d) (hd : WfD d.p) (hbad : ¬ (RightL (l.map Tb.p) ∧ plainD d.p = true ∧ 0 ≤ id)) :
    Calls Tryz.prog 9 #[.agg #[.slice A l.length cp], DV d, .int .i64 id] w fun e w' => ApplyEnd (l.map Tb.p) d.p id w e w' := by
  have Hbad := Lib.hid hbad; clear hbad
  obtain ⟨w0, hw0, hb0, hC, hX, hR, hO, hs0⟩ := box_app w (.slice A l.length cp) d
  have Hw0 := Lib.hid hw0; clear hw0
  have HbW := Lib.hid hb0
  have HL2 : Hid (TabsAt w0 w.heap.size A l) := hA.below hb0
  have HD2 : Hid (ColsAt w0 w.heap.size d.A d.p.cols) := RowAt.below hD hb0
  have HL := Lib.hid (hA.to hb0); clear hA
  have HD := Lib.hid (RowAt.to hD hb0); clear hD hb0
  have HC := Lib.hid hC; clear hC
  have HX := Lib.hid hX; clear hX
  have HR := Lib.hid hR; clear hR
  have HO := Lib.hid hO; clear hO
  have Hs0 := Lib.hid hs0; clear hs0
  have HW := Lib.hid hw; clear hw
  have Hd := Lib.hid hd; clear hd
  have Hput : Hid (∀ (X : World) (v : Value), Below w0.heap.size w0 X → Below w.heap.size w (X.setCell ⟨w.heap.size + 1 + 1, 0, none⟩ v)) := fun X v hX => bput (bthen HbW.out hX) (by omega) 0 v
  have HRes : Hid (∀ X, Below w0.heap.size w0 X → X.cell? ⟨w.heap.size + 1 + 1, 0, none⟩ = some (.slice none 0 0) ∧ X.frozen? ⟨w.heap.size + 1 + 1, 0, none⟩ = false ∧ X.cell? ⟨w.heap.size + 1 + 1 + 1, 0, none⟩ = some (.slice none 0 0)) := fun X hX =>
    ⟨(HR.out.below hX (by have := Hs0.out; omega)).cell, (HR.out.below hX (by have := Hs0.out; omega)).frozen, (HO.out.below hX (by have := Hs0.out; omega)).cell⟩
  go_enter Tryz.func9, Tryz.ntmps9
  go_wp2_with fail
  try rw [Hw0.out]
  refine (rrcat_any A cp l w0 (HL.out.to (Below.refl _ _)) HW.out hl).mono ?_
  rintro e w1 ⟨rfl, hb⟩
  have Hb1 := Lib.hid hb
  clear hb
  try clear c0
  have c0 := (HC.out.below Hb1.out (by have := Hs0.out; omega)).one
  try clear x0 x1 x2 x3 x4 x5 x6 x7 x8 x9 x10 x11
  obtain ⟨x0, x1, x2, x3, x4, x5, x6, x7, x8, x9, x10, x11⟩ := (HX.out.below Hb1.out (by have := Hs0.out; omega)).ddl
  cases hr : rightCat l
  · have hE : applyE (l.map Tb.p) d.p id = 2 := applyE_arg fun h => by have := (rightL_iff l).2 h.1; rw [hr] at this; cases this
    obtain ⟨z0, z1, z2⟩ := HRes.out w1 Hb1.out
    have HB := Lib.hid (ApplyEnd.bad hE (by decide) (Hput.out w1 (.slice none 0 0) Hb1.out))
    clear hE hr
    have Hz0 := Lib.hid z0
    go_wp2_with fail
    refine bodyPost_ret (results_c2 rfl _ _ rfl (World.cell?_setCell_same _ _ _ Hz0.out)) rfl ?_
    exact HB.out
  have HRl := Lib.hid ((rightL_iff l).1 hr); clear hr
  go_wp2_with fail
  refine (rplain_any d w1 (RowAt.to HD.out Hb1.out) Hd.out.2.2.2.2.1).mono ?_
  rintro e w2 ⟨rfl, hb⟩
  have Hb2 := Lib.hid (bthen Hb1.out hb)
  clear hb
  try clear c0
  have c0 := (HC.out.below Hb2.out (by have := Hs0.out; omega)).one
  try clear x0 x1 x2 x3 x4 x5 x6 x7 x8 x9 x10 x11
  obtain ⟨x0, x1, x2, x3, x4, x5, x6, x7, x8, x9, x10, x11⟩ := (HX.out.below Hb2.out (by have := Hs0.out; omega)).ddl
  cases hp : plainD d.p
  · have hE : applyE (l.map Tb.p) d.p id = 2 := applyE_arg fun h => by rw [hp] at h; cases h.2.1
    obtain ⟨z0, z1, z2⟩ := HRes.out w2 Hb2.out
    have HB := Lib.hid (ApplyEnd.bad hE (by decide) (Hput.out w2 (.slice none 0 0) Hb2.out))
    clear hE hp
    have Hz0 := Lib.hid z0
    go_wp2_with fail
    refine bodyPost_ret (results_c2 rfl _ _ rfl (World.cell?_setCell_same _ _ _ Hz0.out)) rfl ?_
    exact HB.out
  have Hpl := Lib.hid hp; clear hp
  by_cases hid : id < 0
  · have hE : applyE (l.map Tb.p) d.p id = 2 := applyE_arg fun h => by omega
    have hd3 : decide (id < 0) = true := by simp [hid]
    obtain ⟨z0, z1, z2⟩ := HRes.out w2 Hb2.out
    have HB := Lib.hid (ApplyEnd.bad hE (by decide) (Hput.out w2 (.slice none 0 0) Hb2.out))
    clear hE hid
    have Hz0 := Lib.hid z0
    go_wp2_with fail
    refine bodyPost_ret (results_c2 rfl _ _ rfl (World.cell?_setCell_same _ _ _ Hz0.out)) rfl ?_
    exact HB.out
  exact absurd ⟨HRl.out, Hpl.out, by omega⟩ Hbad.out
end Go.Proofs.YthmjgaekcghonaaGreatDoor
