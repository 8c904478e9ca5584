/-
  Contract of the document's own Table of layer 8.
-/
import Derived.Test.YtmcgcanpaffggaaDoorPart1
import Derived.Test.YtmcgcanpaffggaaDoorPart2
import Derived.Test.YtmcgcanpaffggaaDoorPart3
namespace Go.Proofs.YtmcgcanpaffggaaDoor
open Go.RowKit

theorem ok_more {l : List Cb} {k : Nat} {x : Cb} (h : ∀ j, j < k → OkAt Cb.id Cb.nm l j) (hx : l[k]? = some x) (h1 : ∀ y, 0 < k → l[k - 1]? = some y → y.id < x.id)
    (h2 : (l.findIdx? fun y => eqS y.nm x.nm) = some k) : ∀ j, j < k + 1 → OkAt Cb.id Cb.nm l j := fun j hj => by
  by_cases e : j = k
  · subst e
    intro z hz
    rw [hx] at hz; cases hz
    exact ⟨h1, (find_own hx).1 h2⟩
  · exact h j (by omega)
theorem dist_no_id {l : List Cb} {j : Nat} {x y : Cb} (hx : l[j + 1]? = some x) (hy : l[j]? = some y) (h2 : x.id ≤ y.id) : ¬ Dist Cb.id Cb.nm l := fun h => by
  have := (h (j + 1) (List.getElem?_eq_some_iff.1 hx).1 x hx).1 y (by omega) (by simpa using hy)
  omega
theorem dist_no_nm {l : List Cb} {k : Nat} {x : Cb} (hx : l[k]? = some x) (h2 : (l.findIdx? fun y => eqS y.nm x.nm) ≠ some k) : ¬ Dist Cb.id Cb.nm l := fun h =>
  h2 ((find_own hx).2 (h k (List.getElem?_eq_some_iff.1 hx).1 x hx).2)
theorem rightCols_no1 {t : Tb} {k : Nat} {c : Cb} (hc : t.cols[k]? = some c) (h : (rightC c && decide (c.id < t.nx)) = false) : rightCols t = false := by
  unfold rightCols
  have : (t.cols.all fun c => rightC c && decide (c.id < t.nx)) = false := by
    cases e : t.cols.all fun c => rightC c && decide (c.id < t.nx) with
    | false => rfl
    | true =>
      rw [List.all_eq_true] at e
      have := e c (List.mem_of_getElem? hc)
      rw [h] at this; cases this
  rw [this]; rfl
theorem rightCols_no2 {t : Tb} (h : ¬ Dist Cb.id Cb.nm t.cols) : rightCols t = false := by unfold rightCols; rw [tf_no h, Bool.and_false]
theorem rightCols_yes {t : Tb} (h1 : ∀ (j : Nat) c, t.cols[j]? = some c → (rightC c && decide (c.id < t.nx)) = true) (h : Dist Cb.id Cb.nm t.cols) : rightCols t = true := by
  unfold rightCols; rw [tf_yes h, all_at h1]; rfl
theorem idxI_eq (o : Option Nat) (k : Nat) : (idxI o == (k : Int)) = decide (o = some k) := by
  apply bool_eq
  cases o with
  | none => simp [idxI]
  | some q => simp [idxI]; omega
theorem any_take {l : List Cb} {k : Nat} {c : Cb} (hc : l[k]? = some c) (p : Cb → Bool) : (l.take (k + 1)).any p = ((l.take k).any p || p c) := by
  obtain ⟨h1, rfl⟩ := List.getElem?_eq_some_iff.1 hc
  rw [List.take_succ_eq_append_getElem h1, List.any_append]; simp

set_option maxRecDepth 100000 in
set_option maxHeartbeats 4000000 in
theorem rrtab_any (t : Tb) (w : World) (hw : WfT t) (hA : TabAt w w.heap.size t) :
    Calls Tryd.prog 11 #[TV t] w fun e w' => e = .returned (.bool (rightTab t)) ∧ Below w.heap.size w w' := by
  obtain ⟨w0, hw0, hb0, hB, hs0⟩ := box_tab w t
  have Hw0 := Lib.hid hw0; clear hw0
  have Hb0 := Lib.hid hb0
  have HA := Lib.hid (RowAt.to hA hb0); clear hA hb0
  have HB := Lib.hid hB; clear hB
  have Hs0 := Lib.hid hs0; clear hs0
  have HW := Lib.hid hw
  have HN := Lib.hid (fun w => nrright_any t.nm w hw.1)
  have hlen := hw.2.1; clear hw
  have Hv : Hid (rightTab t = (decide (0 ≤ t.id) && (rightN (bs t.nm) && (decide (t.nx ≤ 200) && (decide (1 ≤ (t.cols.length : Int)) && (decide ((t.cols.length : Int) ≤ 10) && (rightCols t && tf (keyOk t)))))))) := rfl
  have e1 : decide (t.id < 0) = !decide (0 ≤ t.id) := by apply bool_eq; simp
  have e3 : decide (200 < t.nx) = !decide (t.nx ≤ 200) := by apply bool_eq; simp
  have e4 : decide ((t.cols.length : Int) < 1) = !decide (1 ≤ (t.cols.length : Int)) := by apply bool_eq; simp
  have e5 : decide (10 < (t.cols.length : Int)) = !decide ((t.cols.length : Int) ≤ 10) := by apply bool_eq; simp
  generalize decide (0 ≤ t.id) = b1 at Hv e1
  generalize rightN (bs t.nm) = b2 at Hv HN
  generalize decide (t.nx ≤ 200) = b3 at Hv e3
  generalize decide (1 ≤ (t.cols.length : Int)) = b4 at Hv e4
  generalize decide ((t.cols.length : Int) ≤ 10) = b5 at Hv e5
  cases b1
  · replace e1 : decide (t.id < 0) = true := e1
    go_enter Tryd.func11, Tryd.ntmps11
    go_wp2_with fail
    go_ret
    exact ⟨by rw [Hv.out]; rfl, by go_grown⟩
  cases b2
  · replace e1 : decide (t.id < 0) = false := e1
    go_enter Tryd.func11, Tryd.ntmps11
    go_wp2_with fail
    refine (HN.out _).mono ?_
    rintro e w1 ⟨rfl, rfl⟩
    go_wp2_with fail
    go_ret
    exact ⟨by rw [Hv.out]; rfl, by go_grown⟩
  cases b4
  · replace e1 : decide (t.id < 0) = false := e1
    replace e4 : decide ((t.cols.length : Int) < 1) = true := e4
    go_enter Tryd.func11, Tryd.ntmps11
    go_wp2_with fail
    refine (HN.out _).mono ?_
    rintro e w1 ⟨rfl, rfl⟩
    go_wp2_with fail
    go_ret
    exact ⟨by rw [Hv.out]; simp, by go_grown⟩
  cases b5
  · replace e1 : decide (t.id < 0) = false := e1
    replace e4 : decide ((t.cols.length : Int) < 1) = false := e4
    replace e5 : decide (10 < (t.cols.length : Int)) = true := e5
    go_enter Tryd.func11, Tryd.ntmps11
    go_wp2_with fail
    refine (HN.out _).mono ?_
    rintro e w1 ⟨rfl, rfl⟩
    go_wp2_with fail
    go_ret
    exact ⟨by rw [Hv.out]; simp, by go_grown⟩
  cases b3
  · replace e1 : decide (t.id < 0) = false := e1
    replace e4 : decide ((t.cols.length : Int) < 1) = false := e4
    replace e5 : decide (10 < (t.cols.length : Int)) = false := e5
    replace e3 : decide (200 < t.nx) = true := e3
    go_enter Tryd.func11, Tryd.ntmps11
    go_wp2_with fail
    refine (HN.out _).mono ?_
    rintro e w1 ⟨rfl, rfl⟩
    go_wp2_with fail
    go_ret
    exact ⟨by rw [Hv.out]; rfl, by go_grown⟩
  · replace e1 : decide (t.id < 0) = false := e1
    replace e4 : decide ((t.cols.length : Int) < 1) = false := e4
    replace e5 : decide (10 < (t.cols.length : Int)) = false := e5
    replace e3 : decide (200 < t.nx) = false := e3
    go_enter Tryd.func11, Tryd.ntmps11
    go_wp2_with fail
    refine (HN.out _).mono ?_
    rintro e w1 ⟨rfl, rfl⟩
    go_wp2_with fail
    rw [Hw0.out]
    replace Hv : Hid (rightTab t = (rightCols t && tf (keyOk t))) := by show _ = _; rw [Hv.out]; simp
    clear e1 e3 e4 e5
    go_loopw [3, 4] (fun kb i wr => ∃ k : Nat, k ≤ t.cols.length ∧ i = .int .i64 k ∧ (∃ q : Bool, kb = .bool q ∧ Hid (((t.cols.take k).any fun c => (c.id == t.key) && !c.nl) = q)) ∧
      Hid (∀ j c, t.cols[j]? = some c → j < k → (rightC c && decide (c.id < t.nx)) = true) ∧ Hid (∀ j, j < k → OkAt Cb.id Cb.nm t.cols j) ∧ Hid (Below w0.heap.size w0 wr)) (fun _ i _ => t.cols.length - (intOf i).toNat)
    case atStart => exact ⟨0, by omega, rfl, ⟨false, rfl, rfl⟩, fun j v _ h => absurd h (by omega), fun j h => absurd h (by omega), Below.refl _ _⟩
    case round =>
      obtain ⟨k, hk, rfl, ⟨q, rfl, Hq⟩, hall, hok, hb⟩ := hrel
      have Hbw := Lib.hid (bthen Hb0.out hb.out)
      obtain ⟨c0, c1, c2, c3, c4⟩ := (HB.out.below hb.out (show w.heap.size < w0.heap.size by have := Hs0.out; omega)).tab
      by_cases hlt : k < t.cols.length
      · obtain ⟨c, hc⟩ : ∃ c, t.cols[k]? = some c := ⟨t.cols[k], by simp [hlt]⟩
        have Hc := Lib.hid hc
        obtain ⟨b, off, hAe, hbB, d0, d1, d2, d3, d4, d5, d6, d7⟩ := ColsAt.get (RowAt.below HA.out hb.out) k c hc
        rw [hAe] at c4
        obtain ⟨w1, hw1, hb1, hX, hs1⟩ := box_col wr c
        have Hw1 := Lib.hid hw1; clear hw1
        have Hs1 := Lib.hid hs1; clear hs1
        have HX := Lib.hid hX; clear hX
        have Hb1 := Lib.hid hb1
        have HA1 := Lib.hid (RowAt.to (RowAt.to HA.out hb.out) hb1)
        have Hbw1 := Lib.hid (bthen Hbw.out hb1); clear hb1
        have HC := Lib.hid (fun w => rrcol_any c w (HW.out.2.2.2 c (List.mem_of_getElem? hc)))
        clear hc
        have Hblt : Hid (b < wr.heap.size) := by show _ < _; have := hb.out.size; omega
        have Htlt : Hid (w.heap.size < wr.heap.size) := by show _ < _; have := hb.out.size; have := Hs0.out; omega
        have HL : Hid (∀ w' : World, TabAt w' w'.heap.size t → Calls Tryd.prog 26 #[.agg #[.int .i64 t.id, .string t.nm, .int .i64 t.key, .int .i64 t.nx, .slice (some ⟨b, off, none⟩) t.cols.length t.cap], .string c.nm] w' fun e w2 => e = .returned (.int .i64 (idxI (colI t c.nm))) ∧ Below w'.heap.size w' w2) := fun w' hA' => by
          have := rcolI_any t c.nm w' hA' hlen
          unfold TV at this
          rw [hAe] at this
          exact this
        have HAe := Lib.hid hAe; clear hAe
        have hne : Nonempty (BelowBy w1.heap.size w1) := ⟨⟨w1, Below.refl _ _⟩⟩
        have X0 : ∀ p : BelowBy w1.heap.size w1, p.x.cell? ⟨wr.heap.size, 0, none⟩ = some (.int .i64 c.id) := fun p => (p.h.cell (by have := Hs1.out; simp; omega)).trans (HX.out 0 _ rfl)
        have X1 : ∀ p : BelowBy w1.heap.size w1, p.x.cell? ⟨wr.heap.size, 1, none⟩ = some (.string c.nm) := fun p => (p.h.cell (by have := Hs1.out; simp; omega)).trans (HX.out 1 _ rfl)
        have X2 : ∀ p : BelowBy w1.heap.size w1, p.x.cell? ⟨wr.heap.size, 2, none⟩ = some (.int .i64 c.tk) := fun p => (p.h.cell (by have := Hs1.out; simp; omega)).trans (HX.out 2 _ rfl)
        have X3 : ∀ p : BelowBy w1.heap.size w1, p.x.cell? ⟨wr.heap.size, 3, none⟩ = some (.int .i64 c.tm) := fun p => (p.h.cell (by have := Hs1.out; simp; omega)).trans (HX.out 3 _ rfl)
        have X4 : ∀ p : BelowBy w1.heap.size w1, p.x.cell? ⟨wr.heap.size, 4, none⟩ = some (.bool c.nl) := fun p => (p.h.cell (by have := Hs1.out; simp; omega)).trans (HX.out 4 _ rfl)
        have X5 : ∀ p : BelowBy w1.heap.size w1, p.x.cell? ⟨wr.heap.size, 5, none⟩ = some (.int .i64 c.dk) := fun p => (p.h.cell (by have := Hs1.out; simp; omega)).trans (HX.out 5 _ rfl)
        have X6 : ∀ p : BelowBy w1.heap.size w1, p.x.cell? ⟨wr.heap.size, 6, none⟩ = some (.int .i64 c.dn) := fun p => (p.h.cell (by have := Hs1.out; simp; omega)).trans (HX.out 6 _ rfl)
        have X7 : ∀ p : BelowBy w1.heap.size w1, p.x.cell? ⟨wr.heap.size, 7, none⟩ = some (.string c.ds) := fun p => (p.h.cell (by have := Hs1.out; simp; omega)).trans (HX.out 7 _ rfl)
        have T0 : ∀ p : BelowBy w1.heap.size w1, p.x.cell? ⟨w.heap.size, 0, none⟩ = some (.int .i64 t.id) := fun p => (p.h.cell (by have := Hs1.out; have := Htlt.out; simp; omega)).trans ((Hb1.out.cell (p := ⟨w.heap.size, 0, none⟩) Htlt.out).trans c0)
        have T1 : ∀ p : BelowBy w1.heap.size w1, p.x.cell? ⟨w.heap.size, 1, none⟩ = some (.string t.nm) := fun p => (p.h.cell (by have := Hs1.out; have := Htlt.out; simp; omega)).trans ((Hb1.out.cell (p := ⟨w.heap.size, 1, none⟩) Htlt.out).trans c1)
        have T2 : ∀ p : BelowBy w1.heap.size w1, p.x.cell? ⟨w.heap.size, 2, none⟩ = some (.int .i64 t.key) := fun p => (p.h.cell (by have := Hs1.out; have := Htlt.out; simp; omega)).trans ((Hb1.out.cell (p := ⟨w.heap.size, 2, none⟩) Htlt.out).trans c2)
        have T3 : ∀ p : BelowBy w1.heap.size w1, p.x.cell? ⟨w.heap.size, 3, none⟩ = some (.int .i64 t.nx) := fun p => (p.h.cell (by have := Hs1.out; have := Htlt.out; simp; omega)).trans ((Hb1.out.cell (p := ⟨w.heap.size, 3, none⟩) Htlt.out).trans c3)
        have T4 : ∀ p : BelowBy w1.heap.size w1, p.x.cell? ⟨w.heap.size, 4, none⟩ = some (.slice (some ⟨b, off, none⟩) t.cols.length t.cap) := fun p => (p.h.cell (by have := Hs1.out; have := Htlt.out; simp; omega)).trans ((Hb1.out.cell (p := ⟨w.heap.size, 4, none⟩) Htlt.out).trans c4)
        cases hr : rightC c
        · have Hno : Hid (rightCols t = false) := rightCols_no1 Hc.out (by rw [hr]; rfl)
          rw [hr] at HC
          clear hr
          go_wp2_with fail
          rw [Hw1.out]
          refine wp_region_below w1.heap.size (by kernel_rfl) (by kernel_rfl) ?_
          repeat (
            with_reducible refine wpQuiet_step (fun K hK => ?_)
            go_simp
            refine hK _ ?_
            clear hK K)
          with_reducible refine wpQuiet_step (fun K hK => ?_)
          go_simp
          apply Exists.intro
          refine ⟨fun p => ?_, hK _ ?_⟩
          exact (HC.out _).mono fun e w5 ⟨he, hb⟩ => ⟨he, p.step (Nat.le_refl _) hb⟩
          clear hK K
          repeat (
            with_reducible refine wpQuiet_step (fun K hK => ?_)
            go_simp
            refine hK _ ?_
            clear hK K)
          refine wpQuiet_nil ?_
          rintro _ ⟨p, rfl⟩
          have c0 := X0 p; have c4 := X4 p; have c2 := T2 p
          go_wp2_with fail
          go_ret
          exact ⟨by rw [Hv.out, Hno.out]; rfl, bthen Hbw1.out p.h⟩
        · cases hx : decide (t.nx ≤ c.id)
          · have Hcc : Hid ((rightC c && decide (c.id < t.nx)) = true) := by show _ = _; rw [hr]; simpa using hx
            rw [hr] at HC
            clear hr
            by_cases hk0 : k = 0
            · subst hk0
              simp only [Nat.zero_mul, Nat.add_zero] at d0 d1 d2 d3 d4 d5 d6 d7
              have Hco : Hid (colI t c.nm = some 0) := find_at (fun j x _ h => absurd h (by omega)) Hc.out (eqS_self _)
              have Hok : Hid (∀ j, j < 0 + 1 → OkAt Cb.id Cb.nm t.cols j) := ok_more hok.out Hc.out (fun y h _ => absurd h (by omega)) Hco.out
              have hie : idxI (colI t c.nm) = 0 := by rw [Hco.out]; rfl
              rw [hie] at HL
              clear hie
              have Hall : Hid (∀ j d, t.cols[j]? = some d → j < 0 + 1 → (rightC d && decide (d.id < t.nx)) = true) := fun j d hj hk => by
                by_cases e : j = 0
                · subst e
                  rw [Hc.out] at hj
                  cases hj
                  exact Hcc.out
                · exact hall.out j d hj (by omega)
              cases q
              · cases hid : (c.id == t.key)
                · have Hq' : Hid (((t.cols.take (0 + 1)).any fun c => (c.id == t.key) && !c.nl) = false) := by show _ = _; rw [any_take Hc.out, Hq.out]; rw [hid]; rfl
                  go_wp2_with fail
                  rw [Hw1.out]
                  refine wp_region_below w1.heap.size (by kernel_rfl) (by kernel_rfl) ?_
                  repeat (
                    with_reducible refine wpQuiet_step (fun K hK => ?_)
                    go_simp
                    refine hK _ ?_
                    clear hK K)
                  with_reducible refine wpQuiet_step (fun K hK => ?_)
                  go_simp
                  apply Exists.intro
                  refine ⟨fun p => ?_, hK _ ?_⟩
                  exact (HC.out _).mono fun e w5 ⟨he, hb⟩ => ⟨he, p.step (Nat.le_refl _) hb⟩
                  clear hK K
                  repeat (
                    with_reducible refine wpQuiet_step (fun K hK => ?_)
                    go_simp
                    refine hK _ ?_
                    clear hK K)
                  with_reducible refine wpQuiet_step (fun K hK => ?_)
                  go_simp
                  apply Exists.intro
                  refine ⟨fun p => ?_, hK _ ?_⟩
                  exact (HL.out _ (RowAt.to HA1.out p.h)).mono fun e w5 ⟨he, hb⟩ => ⟨he, p.step (Nat.le_refl _) hb⟩
                  clear hK K
                  repeat (
                    with_reducible refine wpQuiet_step (fun K hK => ?_)
                    go_simp
                    refine hK _ ?_
                    clear hK K)
                  refine wpQuiet_nil ?_
                  rintro _ ⟨p, rfl⟩
                  have c0 := X0 p; have c4 := X4 p; have c2 := T2 p
                  go_wp2_with fail
                  go_roundw
                  case rel => exact ⟨0 + 1, by omega, by go_num, ⟨_, rfl, Hq'⟩, Hall, Hok, bthen (bthen hb.out Hb1.out) p.h⟩
                  case measure => simp [intOf]; omega
                · have Hq' : Hid (((t.cols.take (0 + 1)).any fun c => (c.id == t.key) && !c.nl) = !c.nl) := by show _ = _; rw [any_take Hc.out, Hq.out]; rw [hid]; rfl
                  go_wp2_with fail
                  rw [Hw1.out]
                  refine wp_region_below w1.heap.size (by kernel_rfl) (by kernel_rfl) ?_
                  repeat (
                    with_reducible refine wpQuiet_step (fun K hK => ?_)
                    go_simp
                    refine hK _ ?_
                    clear hK K)
                  with_reducible refine wpQuiet_step (fun K hK => ?_)
                  go_simp
                  apply Exists.intro
                  refine ⟨fun p => ?_, hK _ ?_⟩
                  exact (HC.out _).mono fun e w5 ⟨he, hb⟩ => ⟨he, p.step (Nat.le_refl _) hb⟩
                  clear hK K
                  repeat (
                    with_reducible refine wpQuiet_step (fun K hK => ?_)
                    go_simp
                    refine hK _ ?_
                    clear hK K)
                  with_reducible refine wpQuiet_step (fun K hK => ?_)
                  go_simp
                  apply Exists.intro
                  refine ⟨fun p => ?_, hK _ ?_⟩
                  exact (HL.out _ (RowAt.to HA1.out p.h)).mono fun e w5 ⟨he, hb⟩ => ⟨he, p.step (Nat.le_refl _) hb⟩
                  clear hK K
                  repeat (
                    with_reducible refine wpQuiet_step (fun K hK => ?_)
                    go_simp
                    refine hK _ ?_
                    clear hK K)
                  refine wpQuiet_nil ?_
                  rintro _ ⟨p, rfl⟩
                  have c0 := X0 p; have c4 := X4 p; have c2 := T2 p
                  go_wp2_with fail
                  go_roundw
                  case rel => exact ⟨0 + 1, by omega, by go_num, ⟨_, rfl, Hq'⟩, Hall, Hok, bthen (bthen hb.out Hb1.out) p.h⟩
                  case measure => simp [intOf]; omega
              · have Hq' : Hid (((t.cols.take (0 + 1)).any fun c => (c.id == t.key) && !c.nl) = true) := by show _ = _; rw [any_take Hc.out, Hq.out]; rfl
                go_wp2_with fail
                rw [Hw1.out]
                refine wp_region_below w1.heap.size (by kernel_rfl) (by kernel_rfl) ?_
                repeat (
                  with_reducible refine wpQuiet_step (fun K hK => ?_)
                  go_simp
                  refine hK _ ?_
                  clear hK K)
                with_reducible refine wpQuiet_step (fun K hK => ?_)
                go_simp
                apply Exists.intro
                refine ⟨fun p => ?_, hK _ ?_⟩
                exact (HC.out _).mono fun e w5 ⟨he, hb⟩ => ⟨he, p.step (Nat.le_refl _) hb⟩
                clear hK K
                repeat (
                  with_reducible refine wpQuiet_step (fun K hK => ?_)
                  go_simp
                  refine hK _ ?_
                  clear hK K)
                with_reducible refine wpQuiet_step (fun K hK => ?_)
                go_simp
                apply Exists.intro
                refine ⟨fun p => ?_, hK _ ?_⟩
                exact (HL.out _ (RowAt.to HA1.out p.h)).mono fun e w5 ⟨he, hb⟩ => ⟨he, p.step (Nat.le_refl _) hb⟩
                clear hK K
                repeat (
                  with_reducible refine wpQuiet_step (fun K hK => ?_)
                  go_simp
                  refine hK _ ?_
                  clear hK K)
                refine wpQuiet_nil ?_
                rintro _ ⟨p, rfl⟩
                have c0 := X0 p; have c4 := X4 p; have c2 := T2 p
                go_wp2_with fail
                go_roundw
                case rel => exact ⟨0 + 1, by omega, by go_num, ⟨_, rfl, Hq'⟩, Hall, Hok, bthen (bthen hb.out Hb1.out) p.h⟩
                case measure => simp [intOf]; omega
            · obtain ⟨j, rfl⟩ : ∃ j, k = j + 1 := ⟨k - 1, by omega⟩
              clear hk0
              obtain ⟨y, hy⟩ : ∃ y, t.cols[j]? = some y := ⟨t.cols[j]'(by omega), by simp [show j < t.cols.length by omega]⟩
              have Hy := Lib.hid hy
              obtain ⟨b', off', e', _, y0, _⟩ := ColsAt.get (RowAt.below HA.out hb.out) j y hy
              rw [HAe.out] at e'
              cases e'
              clear hy
              have Y0 : ∀ p : BelowBy w1.heap.size w1, p.x.cell? ⟨b, off + j * 8, none⟩ = some (.int .i64 y.id) := fun p => (p.h.cell (by have := Hs1.out; have := Hblt.out; simp; omega)).trans ((Hb1.out.cell (p := ⟨b, off + j * 8, none⟩) Hblt.out).trans y0)
              have hwj : IntKind.i64.wrap (j : Int) = (j : Int) := by rw [IntKind.wrap_i64]; omega
              have hj0 : (0 : Int) ≤ (j : Int) := by omega
              have hjl : (j : Int) < (t.cols.length : Int) := by omega
              cases hd : decide (c.id ≤ y.id)
              · have Hlt : Hid (y.id < c.id) := by have h := of_decide_eq_false hd; show _ < _; omega
                have Hpr : Hid (∀ z, 0 < j + 1 → t.cols[j + 1 - 1]? = some z → z.id < c.id) := fun z _ hz => by
                  rw [show j + 1 - 1 = j by omega, Hy.out] at hz
                  cases hz
                  exact Hlt.out
                by_cases hco : colI t c.nm = some (j + 1)
                · have Hco := Lib.hid hco
                  have Hok : Hid (∀ i, i < j + 1 + 1 → OkAt Cb.id Cb.nm t.cols i) := ok_more hok.out Hc.out Hpr.out Hco.out
                  have hie : idxI (colI t c.nm) = ((j + 1 : Nat) : Int) := by rw [Hco.out]; rfl
                  rw [hie] at HL
                  clear hie hco
                  have Hall : Hid (∀ i d, t.cols[i]? = some d → i < j + 1 + 1 → (rightC d && decide (d.id < t.nx)) = true) := fun i d hj hk => by
                    by_cases e : i = j + 1
                    · subst e
                      rw [Hc.out] at hj
                      cases hj
                      exact Hcc.out
                    · exact hall.out i d hj (by omega)
                  cases q
                  · cases hid : (c.id == t.key)
                    · have Hq' : Hid (((t.cols.take (j + 1 + 1)).any fun c => (c.id == t.key) && !c.nl) = false) := by show _ = _; rw [any_take Hc.out, Hq.out]; rw [hid]; rfl
                      go_wp2_with fail
                      rw [Hw1.out]
                      refine wp_region_below w1.heap.size (by kernel_rfl) (by kernel_rfl) ?_
                      repeat (
                        with_reducible refine wpQuiet_step (fun K hK => ?_)
                        go_simp
                        refine hK _ ?_
                        clear hK K)
                      with_reducible refine wpQuiet_step (fun K hK => ?_)
                      go_simp
                      apply Exists.intro
                      refine ⟨fun p => ?_, hK _ ?_⟩
                      exact (HC.out _).mono fun e w5 ⟨he, hb⟩ => ⟨he, p.step (Nat.le_refl _) hb⟩
                      clear hK K
                      repeat (
                        with_reducible refine wpQuiet_step (fun K hK => ?_)
                        go_simp
                        refine hK _ ?_
                        clear hK K)
                      with_reducible refine wpQuiet_step (fun K hK => ?_)
                      go_simp
                      apply Exists.intro
                      refine ⟨fun p => ?_, hK _ ?_⟩
                      exact (HL.out _ (RowAt.to HA1.out p.h)).mono fun e w5 ⟨he, hb⟩ => ⟨he, p.step (Nat.le_refl _) hb⟩
                      clear hK K
                      repeat (
                        with_reducible refine wpQuiet_step (fun K hK => ?_)
                        go_simp
                        refine hK _ ?_
                        clear hK K)
                      refine wpQuiet_nil ?_
                      rintro _ ⟨p, rfl⟩
                      have c0 := X0 p; have c4 := X4 p; have c2 := T2 p
                      go_wp2_with fail
                      go_roundw
                      case rel => exact ⟨j + 1 + 1, by omega, by go_num, ⟨_, rfl, Hq'⟩, Hall, Hok, bthen (bthen hb.out Hb1.out) p.h⟩
                      case measure => simp [intOf]; omega
                    · have Hq' : Hid (((t.cols.take (j + 1 + 1)).any fun c => (c.id == t.key) && !c.nl) = !c.nl) := by show _ = _; rw [any_take Hc.out, Hq.out]; rw [hid]; rfl
                      go_wp2_with fail
                      rw [Hw1.out]
                      refine wp_region_below w1.heap.size (by kernel_rfl) (by kernel_rfl) ?_
                      repeat (
                        with_reducible refine wpQuiet_step (fun K hK => ?_)
                        go_simp
                        refine hK _ ?_
                        clear hK K)
                      with_reducible refine wpQuiet_step (fun K hK => ?_)
                      go_simp
                      apply Exists.intro
                      refine ⟨fun p => ?_, hK _ ?_⟩
                      exact (HC.out _).mono fun e w5 ⟨he, hb⟩ => ⟨he, p.step (Nat.le_refl _) hb⟩
                      clear hK K
                      repeat (
                        with_reducible refine wpQuiet_step (fun K hK => ?_)
                        go_simp
                        refine hK _ ?_
                        clear hK K)
                      with_reducible refine wpQuiet_step (fun K hK => ?_)
                      go_simp
                      apply Exists.intro
                      refine ⟨fun p => ?_, hK _ ?_⟩
                      exact (HL.out _ (RowAt.to HA1.out p.h)).mono fun e w5 ⟨he, hb⟩ => ⟨he, p.step (Nat.le_refl _) hb⟩
                      clear hK K
                      repeat (
                        with_reducible refine wpQuiet_step (fun K hK => ?_)
                        go_simp
                        refine hK _ ?_
                        clear hK K)
                      refine wpQuiet_nil ?_
                      rintro _ ⟨p, rfl⟩
                      have c0 := X0 p; have c4 := X4 p; have c2 := T2 p
                      go_wp2_with fail
                      go_roundw
                      case rel => exact ⟨j + 1 + 1, by omega, by go_num, ⟨_, rfl, Hq'⟩, Hall, Hok, bthen (bthen hb.out Hb1.out) p.h⟩
                      case measure => simp [intOf]; omega
                  · have Hq' : Hid (((t.cols.take (j + 1 + 1)).any fun c => (c.id == t.key) && !c.nl) = true) := by show _ = _; rw [any_take Hc.out, Hq.out]; rfl
                    go_wp2_with fail
                    rw [Hw1.out]
                    refine wp_region_below w1.heap.size (by kernel_rfl) (by kernel_rfl) ?_
                    repeat (
                      with_reducible refine wpQuiet_step (fun K hK => ?_)
                      go_simp
                      refine hK _ ?_
                      clear hK K)
                    with_reducible refine wpQuiet_step (fun K hK => ?_)
                    go_simp
                    apply Exists.intro
                    refine ⟨fun p => ?_, hK _ ?_⟩
                    exact (HC.out _).mono fun e w5 ⟨he, hb⟩ => ⟨he, p.step (Nat.le_refl _) hb⟩
                    clear hK K
                    repeat (
                      with_reducible refine wpQuiet_step (fun K hK => ?_)
                      go_simp
                      refine hK _ ?_
                      clear hK K)
                    with_reducible refine wpQuiet_step (fun K hK => ?_)
                    go_simp
                    apply Exists.intro
                    refine ⟨fun p => ?_, hK _ ?_⟩
                    exact (HL.out _ (RowAt.to HA1.out p.h)).mono fun e w5 ⟨he, hb⟩ => ⟨he, p.step (Nat.le_refl _) hb⟩
                    clear hK K
                    repeat (
                      with_reducible refine wpQuiet_step (fun K hK => ?_)
                      go_simp
                      refine hK _ ?_
                      clear hK K)
                    refine wpQuiet_nil ?_
                    rintro _ ⟨p, rfl⟩
                    have c0 := X0 p; have c4 := X4 p; have c2 := T2 p
                    go_wp2_with fail
                    go_roundw
                    case rel => exact ⟨j + 1 + 1, by omega, by go_num, ⟨_, rfl, Hq'⟩, Hall, Hok, bthen (bthen hb.out Hb1.out) p.h⟩
                    case measure => simp [intOf]; omega
                · have Hno : Hid (rightCols t = false) := rightCols_no2 (dist_no_nm Hc.out hco)
                  have hie : (idxI (colI t c.nm) == ((j : Int) + 1)) = false := by have := idxI_eq (colI t c.nm) (j + 1); rw [decide_eq_false hco] at this; simpa using this
                  generalize idxI (colI t c.nm) = z at HL hie
                  clear hco
                  go_wp2_with fail
                  rw [Hw1.out]
                  refine wp_region_below w1.heap.size (by kernel_rfl) (by kernel_rfl) ?_
                  repeat (
                    with_reducible refine wpQuiet_step (fun K hK => ?_)
                    go_simp
                    refine hK _ ?_
                    clear hK K)
                  with_reducible refine wpQuiet_step (fun K hK => ?_)
                  go_simp
                  apply Exists.intro
                  refine ⟨fun p => ?_, hK _ ?_⟩
                  exact (HC.out _).mono fun e w5 ⟨he, hb⟩ => ⟨he, p.step (Nat.le_refl _) hb⟩
                  clear hK K
                  repeat (
                    with_reducible refine wpQuiet_step (fun K hK => ?_)
                    go_simp
                    refine hK _ ?_
                    clear hK K)
                  with_reducible refine wpQuiet_step (fun K hK => ?_)
                  go_simp
                  apply Exists.intro
                  refine ⟨fun p => ?_, hK _ ?_⟩
                  exact (HL.out _ (RowAt.to HA1.out p.h)).mono fun e w5 ⟨he, hb⟩ => ⟨he, p.step (Nat.le_refl _) hb⟩
                  clear hK K
                  repeat (
                    with_reducible refine wpQuiet_step (fun K hK => ?_)
                    go_simp
                    refine hK _ ?_
                    clear hK K)
                  refine wpQuiet_nil ?_
                  rintro _ ⟨p, rfl⟩
                  have c0 := X0 p; have c4 := X4 p; have c2 := T2 p
                  go_wp2_with fail
                  go_ret
                  exact ⟨by rw [Hv.out, Hno.out]; rfl, bthen Hbw1.out p.h⟩
              · have Hno : Hid (rightCols t = false) := rightCols_no2 (dist_no_id Hc.out Hy.out (of_decide_eq_true hd))
                go_wp2_with fail
                rw [Hw1.out]
                refine wp_region_below w1.heap.size (by kernel_rfl) (by kernel_rfl) ?_
                repeat (
                  with_reducible refine wpQuiet_step (fun K hK => ?_)
                  go_simp
                  refine hK _ ?_
                  clear hK K)
                with_reducible refine wpQuiet_step (fun K hK => ?_)
                go_simp
                apply Exists.intro
                refine ⟨fun p => ?_, hK _ ?_⟩
                exact (HC.out _).mono fun e w5 ⟨he, hb⟩ => ⟨he, p.step (Nat.le_refl _) hb⟩
                clear hK K
                repeat (
                  with_reducible refine wpQuiet_step (fun K hK => ?_)
                  go_simp
                  refine hK _ ?_
                  clear hK K)
                refine wpQuiet_nil ?_
                rintro _ ⟨p, rfl⟩
                have c0 := X0 p; have c4 := X4 p; have c2 := T2 p
                go_wp2_with fail
                go_ret
                exact ⟨by rw [Hv.out, Hno.out]; rfl, bthen Hbw1.out p.h⟩
          · have Hno : Hid (rightCols t = false) := rightCols_no1 Hc.out (by rw [hr]; simpa using hx)
            rw [hr] at HC
            clear hr
            go_wp2_with fail
            rw [Hw1.out]
            refine wp_region_below w1.heap.size (by kernel_rfl) (by kernel_rfl) ?_
            repeat (
              with_reducible refine wpQuiet_step (fun K hK => ?_)
              go_simp
              refine hK _ ?_
              clear hK K)
            with_reducible refine wpQuiet_step (fun K hK => ?_)
            go_simp
            apply Exists.intro
            refine ⟨fun p => ?_, hK _ ?_⟩
            exact (HC.out _).mono fun e w5 ⟨he, hb⟩ => ⟨he, p.step (Nat.le_refl _) hb⟩
            clear hK K
            repeat (
              with_reducible refine wpQuiet_step (fun K hK => ?_)
              go_simp
              refine hK _ ?_
              clear hK K)
            refine wpQuiet_nil ?_
            rintro _ ⟨p, rfl⟩
            have c0 := X0 p; have c4 := X4 p; have c2 := T2 p
            go_wp2_with fail
            go_ret
            exact ⟨by rw [Hv.out, Hno.out]; rfl, bthen Hbw1.out p.h⟩
      · have Hd : Hid (Dist Cb.id Cb.nm t.cols) := fun i hi => hok.out i (by omega)
        have Hyes : Hid (rightTab t = q) := by
          show _ = _
          rw [Hv.out, rightCols_yes (fun j c hj => hall.out j c hj (by have := (List.getElem?_eq_some_iff.1 hj).1; omega)) Hd.out, key_any Hd.out, ← Hq.out, List.take_of_length_le (by omega)]; rfl
        go_wp2_with fail
        go_ret
        exact ⟨by rw [Hyes.out]; rfl, Hbw.out⟩
end Go.Proofs.YtmcgcanpaffggaaDoor
