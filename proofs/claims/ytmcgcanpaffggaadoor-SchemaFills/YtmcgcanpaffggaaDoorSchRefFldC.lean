/-
  Contract of the document's own fields of layer 8.
-/
import Derived.Test.YtmcgcanpaffggaaDoorPart1
import Derived.Test.YtmcgcanpaffggaaDoorPart2
import Derived.Test.YtmcgcanpaffggaaDoorPart3
namespace Go.Proofs.YtmcgcanpaffggaaDoor
open Go.RowKit

/-- why the fields can't stand; 0 -/
noncomputable def limE (t : Tb) (l : List Fb) (fixed : Int) : Int := if 10 < l.length then 3 else fldsE t l fixed
theorem take_no {l : List Fb} {k : Nat} {x : Fb} (h : ∀ j y, l[j]? = some y → j < k → eqS y.nm x.nm = false) : ((l.take k).findIdx? fun g => eqS g.nm x.nm).isSome = false := by
  rw [find_no (p := fun g => eqS g.nm x.nm) (l := l.take k) (fun j y hj => by
    rw [List.getElem?_take] at hj
    split at hj
    · exact h j y hj (by assumption)
    · cases hj)]
  rfl
theorem take_yes {l : List Fb} {k j : Nat} {x y : Fb} (hy : l[j]? = some y) (hj : j < k) (h : eqS y.nm x.nm = true) : ((l.take k).findIdx? fun g => eqS g.nm x.nm).isSome = true := by
  cases e : (l.take k).findIdx? fun g => eqS g.nm x.nm with
  | some q => rfl
  | none =>
    rw [List.findIdx?_eq_none_iff] at e
    have := e y (List.mem_of_getElem? (i := j) (by rw [List.getElem?_take]; simp [hj, hy]))
    rw [h] at this; cases this
theorem limE_bad {t : Tb} {l : List Fb} {fixed e : Int} {k : Nat} {x : Fb} (hl : ¬ 10 < l.length) (h : ∀ j g, l[j]? = some g → j < k → fldE t l fixed j g = 0) (hx : l[k]? = some x) (he : fldE t l fixed k x = e) (h0 : e ≠ 0) : limE t l fixed = e := by
  unfold limE
  rw [if_neg hl, fldsE_stop h hx (by rw [he]; exact h0), he]
set_option maxRecDepth 100000 in
set_option maxHeartbeats 6400000 in
theorem rflds_any (t : Tb) (Al : Option Addr) (cl : Nat) (l : List Fb) (key : Bool) (fixed : Int) (w : World) (hfx : fixed = if key = true then idxI (keyI t) else -1) (hlen : t.cols.length ≤ 1000000) (hA : TabAt w w.heap.size t) (hF : FldsAt w w.heap.size Al l) :
    Calls Tryd.prog 70 #[TV t, .slice Al l.length cl, .bool key] w fun e w' => e = .returned (.int .i64 (limE t l fixed)) ∧ Below w.heap.size w w' := by
  obtain ⟨w0, hw0, hb0, hB, hs0⟩ := box_tab w t
  have Hw0 := Lib.hid hw0; clear hw0
  have Hb0 := Lib.hid hb0
  have HA := Lib.hid (RowAt.to hA hb0); clear hA
  have HF := Lib.hid (RowAt.to hF hb0); clear hF hb0
  have HB := Lib.hid hB; clear hB
  have Hs0 := Lib.hid hs0; clear hs0
  have Hfx := Lib.hid hfx; clear hfx
  by_cases hlim : 10 < l.length
  · have d : decide (10 < (l.length : Int)) = true := by simp; omega
    have He : Hid (limE t l fixed = 3) := by show _ = _; unfold limE; rw [if_pos hlim]
    clear hlim
    go_enter Tryd.func70, Tryd.ntmps70
    go_wp2_with fail
    rw [Hw0.out]
    go_ret
    exact ⟨by rw [He.out]; rfl, Hb0.out⟩
  have d : decide (10 < (l.length : Int)) = false := by simp; omega
  go_enter Tryd.func70, Tryd.ntmps70
  go_wp2_with fail
  rw [Hw0.out]
  clear d
  go_loopw [7] (fun i wr => ∃ k : Nat, k ≤ l.length ∧ i = .int .i64 k ∧ Hid (∀ j g, l[j]? = some g → j < k → fldE t l fixed j g = 0) ∧ Hid (Below w0.heap.size w0 wr)) (fun i _ => l.length - (intOf i).toNat)
  case atStart => exact ⟨0, by omega, rfl, fun j g _ h => absurd h (by omega), Below.refl _ _⟩
  case round =>
    obtain ⟨k, hk, rfl, hall, hb⟩ := hrel
    have Hbw := Lib.hid (bthen Hb0.out hb.out)
    by_cases hlt : k < l.length
    · obtain ⟨x, hx⟩ : ∃ x, l[k]? = some x := ⟨l[k], by simp [hlt]⟩
      have Hx := Lib.hid hx
      obtain ⟨b, off, rfl, hbB, d0, _⟩ := FldsAt.get (RowAt.below HF.out hb.out) k x hx
      clear hx
      have HL := Lib.hid (fun w' (hb' : Below w0.heap.size w0 w') => rcolI_any t x.nm w' (RowAt.to HA.out hb') hlen)
      have hk0 : (0 : Int) ≤ (k : Int) := by omega
      have hne : Nonempty (BelowBy wr.heap.size wr) := ⟨⟨wr, Below.refl _ _⟩⟩
      have D0 : ∀ p : BelowBy wr.heap.size wr, p.x.cell? ⟨b, off + k * 4, none⟩ = some (.string x.nm) := fun p => (p.h.cell (by have := hb.out.size; simp; omega)).trans d0
      have T0 : ∀ p : BelowBy wr.heap.size wr, p.x.cell? ⟨w.heap.size, 0, none⟩ = some (.int .i64 t.id) := fun p => (p.h.cell (by have := Hs0.out; have := hb.out.size; simp; omega)).trans ((hb.out.cell (by have := Hs0.out; simp; omega)).trans (HB.out 0 _ rfl))
      have T1 : ∀ p : BelowBy wr.heap.size wr, p.x.cell? ⟨w.heap.size, 1, none⟩ = some (.string t.nm) := fun p => (p.h.cell (by have := Hs0.out; have := hb.out.size; simp; omega)).trans ((hb.out.cell (by have := Hs0.out; simp; omega)).trans (HB.out 1 _ rfl))
      have T2 : ∀ p : BelowBy wr.heap.size wr, p.x.cell? ⟨w.heap.size, 2, none⟩ = some (.int .i64 t.key) := fun p => (p.h.cell (by have := Hs0.out; have := hb.out.size; simp; omega)).trans ((hb.out.cell (by have := Hs0.out; simp; omega)).trans (HB.out 2 _ rfl))
      have T3 : ∀ p : BelowBy wr.heap.size wr, p.x.cell? ⟨w.heap.size, 3, none⟩ = some (.int .i64 t.nx) := fun p => (p.h.cell (by have := Hs0.out; have := hb.out.size; simp; omega)).trans ((hb.out.cell (by have := Hs0.out; simp; omega)).trans (HB.out 3 _ rfl))
      have T4 : ∀ p : BelowBy wr.heap.size wr, p.x.cell? ⟨w.heap.size, 4, none⟩ = some (.slice t.A t.cols.length t.cap) := fun p => (p.h.cell (by have := Hs0.out; have := hb.out.size; simp; omega)).trans ((hb.out.cell (by have := Hs0.out; simp; omega)).trans (HB.out 4 _ rfl))
      clear d0
      cases hco : colI t x.nm with
      | none =>
        have He := Lib.hid (limE_bad hlim hall.out Hx.out (fldE_13 hco) (by decide))
        rw [hco, show idxI none = -1 from rfl] at HL
        clear hco
        go_wp2_with fail
        refine wp_region_below wr.heap.size (by kernel_rfl) (by kernel_rfl) ?_
        repeat (
          with_reducible refine wpQuiet_step (fun K hK => ?_)
          go_simp
          refine hK _ ?_
          clear hK K)
        with_reducible refine wpQuiet_step (fun K hK => ?_)
        go_simp
        apply Exists.intro
        refine ⟨fun p => ?_, hK _ ?_⟩
        exact (HL.out _ (bthen hb.out p.h)).mono fun e w5 ⟨he, hb⟩ => ⟨he, p.step (Nat.le_refl _) hb⟩
        clear hK K
        repeat (
          with_reducible refine wpQuiet_step (fun K hK => ?_)
          go_simp
          refine hK _ ?_
          clear hK K)
        refine wpQuiet_nil ?_
        rintro _ ⟨p, rfl⟩
        go_wp2_with fail
        go_ret
        exact ⟨by rw [He.out]; rfl, bthen Hbw.out p.h⟩
      | some q =>
        have Hq := Lib.hid hco
        rw [hco, show idxI (some q) = (q : Int) from rfl] at HL
        clear hco
        have dq : decide ((q : Int) < 0) = false := by simp
        go_wp2_with fail
        refine wp_region_below wr.heap.size (by kernel_rfl) (by kernel_rfl) ?_
        repeat (
          with_reducible refine wpQuiet_step (fun K hK => ?_)
          go_simp
          refine hK _ ?_
          clear hK K)
        with_reducible refine wpQuiet_step (fun K hK => ?_)
        go_simp
        apply Exists.intro
        refine ⟨fun p => ?_, hK _ ?_⟩
        exact (HL.out _ (bthen hb.out p.h)).mono fun e w5 ⟨he, hb⟩ => ⟨he, p.step (Nat.le_refl _) hb⟩
        clear hK K
        repeat (
          with_reducible refine wpQuiet_step (fun K hK => ?_)
          go_simp
          refine hK _ ?_
          clear hK K)
        refine wpQuiet_nil ?_
        rintro _ ⟨p, rfl⟩
        have Hp := Lib.hid (bthen hb.out p.h)
        clear hne D0 T0 T1 T2 T3 T4
        go_wp2_with fail
        go_loopw [8] (fun i wr2 => ∃ j : Nat, j ≤ k ∧ i = .int .i64 j ∧ Hid (∀ i y, l[i]? = some y → i < j → eqS y.nm x.nm = false) ∧ Hid (Below w0.heap.size w0 wr2)) (fun i _ => k - (intOf i).toNat)
        case atStart => exact ⟨0, by omega, rfl, fun i y _ h => absurd h (by omega), Hp.out⟩
        case round =>
          obtain ⟨j, hj, rfl, hno, hb2⟩ := hrel
          have Hbw2 := Lib.hid (bthen Hb0.out hb2.out)
          obtain ⟨b', off', e', hbB', d0, _⟩ := FldsAt.get (RowAt.to HF.out hb2.out) k x Hx.out
          cases e'
          have hne : Nonempty (BelowBy wr.heap.size wr) := ⟨⟨wr, Below.refl _ _⟩⟩
          have D0 : ∀ p : BelowBy wr.heap.size wr, p.x.cell? ⟨b, off + k * 4, none⟩ = some (.string x.nm) := fun p => (p.h.cell hbB').trans d0
          by_cases hjk : j < k
          · obtain ⟨y, hy⟩ : ∃ y, l[j]? = some y := ⟨l[j]'(by omega), by simp [show j < l.length by omega]⟩
            have Hy := Lib.hid hy
            obtain ⟨b', off', e', hbB', f0, _⟩ := FldsAt.get (RowAt.to HF.out hb2.out) j y hy
            cases e'
            have F0 : ∀ p : BelowBy wr.heap.size wr, p.x.cell? ⟨b, off + j * 4, none⟩ = some (.string y.nm) := fun p => (p.h.cell hbB').trans f0
            have hj0 : (0 : Int) ≤ (j : Int) := by omega
            have hjl : j < l.length := by omega
            clear hy d0 f0
            cases he : eqS y.nm x.nm
            · have Hno : Hid (∀ i z, l[i]? = some z → i < j + 1 → eqS z.nm x.nm = false) := fun i z hz hi => by
                by_cases e : i = j
                · subst e
                  rw [Hy.out] at hz; cases hz
                  exact he
                · exact hno.out i z hz (by omega)
              have he' : (y.nm.toList == x.nm.toList) = false := he
              clear he
              go_wp2_with fail
              refine wp_region_below wr.heap.size (by kernel_rfl) (by kernel_rfl) ?_
              repeat (
                with_reducible refine wpQuiet_step (fun K hK => ?_)
                go_simp
                refine hK _ ?_
                clear hK K)
              refine wpQuiet_nil ?_
              rintro _ ⟨p, rfl⟩
              go_wp2_with fail
              go_roundw
              case rel => exact ⟨j + 1, by omega, by go_num, Hno, bthen hb2.out p.h⟩
              case measure => simp [intOf]; omega
            · have He := Lib.hid (limE_bad hlim hall.out Hx.out (fldE_14 Hq.out (take_yes Hy.out hjk he)) (by decide))
              have he' : (y.nm.toList == x.nm.toList) = true := he
              clear he
              go_wp2_with fail
              refine wp_region_below wr.heap.size (by kernel_rfl) (by kernel_rfl) ?_
              repeat (
                with_reducible refine wpQuiet_step (fun K hK => ?_)
                go_simp
                refine hK _ ?_
                clear hK K)
              refine wpQuiet_nil ?_
              rintro _ ⟨p, rfl⟩
              go_wp2_with fail
              go_ret
              exact ⟨by rw [He.out]; rfl, bthen Hbw2.out p.h⟩
          · have Hno : Hid (((l.take k).findIdx? fun g => eqS g.nm x.nm).isSome = false) := take_no fun i y hy hi => hno.out i y hy (by omega)
            have hjk' : decide ((j : Int) < (k : Int)) = false := by simp; omega
            have HK := Lib.hid (fun w' (hb' : Below w0.heap.size w0 w') => rkeyI_any t w' (RowAt.to HA.out hb') hlen)
            clear d0
            have T0 : ∀ p : BelowBy wr.heap.size wr, p.x.cell? ⟨w.heap.size, 0, none⟩ = some (.int .i64 t.id) := fun p => (p.h.cell (by have := Hs0.out; have := hb2.out.size; simp; omega)).trans ((hb2.out.cell (by have := Hs0.out; simp; omega)).trans (HB.out 0 _ rfl))
            have T1 : ∀ p : BelowBy wr.heap.size wr, p.x.cell? ⟨w.heap.size, 1, none⟩ = some (.string t.nm) := fun p => (p.h.cell (by have := Hs0.out; have := hb2.out.size; simp; omega)).trans ((hb2.out.cell (by have := Hs0.out; simp; omega)).trans (HB.out 1 _ rfl))
            have T2 : ∀ p : BelowBy wr.heap.size wr, p.x.cell? ⟨w.heap.size, 2, none⟩ = some (.int .i64 t.key) := fun p => (p.h.cell (by have := Hs0.out; have := hb2.out.size; simp; omega)).trans ((hb2.out.cell (by have := Hs0.out; simp; omega)).trans (HB.out 2 _ rfl))
            have T3 : ∀ p : BelowBy wr.heap.size wr, p.x.cell? ⟨w.heap.size, 3, none⟩ = some (.int .i64 t.nx) := fun p => (p.h.cell (by have := Hs0.out; have := hb2.out.size; simp; omega)).trans ((hb2.out.cell (by have := Hs0.out; simp; omega)).trans (HB.out 3 _ rfl))
            have T4 : ∀ p : BelowBy wr.heap.size wr, p.x.cell? ⟨w.heap.size, 4, none⟩ = some (.slice t.A t.cols.length t.cap) := fun p => (p.h.cell (by have := Hs0.out; have := hb2.out.size; simp; omega)).trans ((hb2.out.cell (by have := Hs0.out; simp; omega)).trans (HB.out 4 _ rfl))
            cases key
            · have Hall := Lib.hid (fldE_more hall.out Hx.out (fldE_0 (fixed := fixed) Hq.out Hno.out (by rw [Hfx.out, if_neg (by decide)]; omega)))
              go_wp2_with fail
              refine wp_region_below wr.heap.size (by kernel_rfl) (by kernel_rfl) ?_
              repeat (
                with_reducible refine wpQuiet_step (fun K hK => ?_)
                go_simp
                refine hK _ ?_
                clear hK K)
              refine wpQuiet_nil ?_
              rintro _ ⟨p, rfl⟩
              go_wp2_with fail
              go_roundw
              case rel => exact ⟨k + 1, by omega, by go_num, Hall, bthen hb2.out p.h⟩
              case measure => simp [intOf]; omega
            · have Hf : Hid (fixed = idxI (keyI t)) := by show _ = _; rw [Hfx.out, if_pos rfl]
              change Hid (∀ w', Below w0.heap.size w0 w' → Calls Tryd.prog 27 #[TV t] w' fun e w2 => e = .returned (.int .i64 (idxI (keyI t))) ∧ Below w'.heap.size w' w2) at HK
              rw [← Hf.out] at HK
              by_cases hqf : (q : Int) = fixed
              · have He := Lib.hid (limE_bad hlim hall.out Hx.out (fldE_15 (fixed := fixed) Hq.out Hno.out hqf) (by decide))
                have dqf : ((q : Int) == fixed) = true := by simpa using hqf
                clear hqf
                go_wp2_with fail
                refine wp_region_below wr.heap.size (by kernel_rfl) (by kernel_rfl) ?_
                repeat (
                  with_reducible refine wpQuiet_step (fun K hK => ?_)
                  go_simp
                  refine hK _ ?_
                  clear hK K)
                with_reducible refine wpQuiet_step (fun K hK => ?_)
                go_simp
                apply Exists.intro
                refine ⟨fun p => ?_, hK _ ?_⟩
                exact (HL.out _ (bthen hb2.out p.h)).mono fun e w5 ⟨he, hb⟩ => ⟨he, p.step (Nat.le_refl _) hb⟩
                clear hK K
                repeat (
                  with_reducible refine wpQuiet_step (fun K hK => ?_)
                  go_simp
                  refine hK _ ?_
                  clear hK K)
                with_reducible refine wpQuiet_step (fun K hK => ?_)
                go_simp
                apply Exists.intro
                refine ⟨fun p => ?_, hK _ ?_⟩
                exact (HK.out _ (bthen hb2.out p.h)).mono fun e w5 ⟨he, hb⟩ => ⟨he, p.step (Nat.le_refl _) hb⟩
                clear hK K
                repeat (
                  with_reducible refine wpQuiet_step (fun K hK => ?_)
                  go_simp
                  refine hK _ ?_
                  clear hK K)
                refine wpQuiet_nil ?_
                rintro _ ⟨p, rfl⟩
                go_wp2_with fail
                go_ret
                exact ⟨by rw [He.out]; rfl, bthen Hbw2.out p.h⟩
              · have Hall := Lib.hid (fldE_more hall.out Hx.out (fldE_0 (fixed := fixed) Hq.out Hno.out hqf))
                have dqf : ((q : Int) == fixed) = false := by simpa using hqf
                clear hqf
                go_wp2_with fail
                refine wp_region_below wr.heap.size (by kernel_rfl) (by kernel_rfl) ?_
                repeat (
                  with_reducible refine wpQuiet_step (fun K hK => ?_)
                  go_simp
                  refine hK _ ?_
                  clear hK K)
                with_reducible refine wpQuiet_step (fun K hK => ?_)
                go_simp
                apply Exists.intro
                refine ⟨fun p => ?_, hK _ ?_⟩
                exact (HL.out _ (bthen hb2.out p.h)).mono fun e w5 ⟨he, hb⟩ => ⟨he, p.step (Nat.le_refl _) hb⟩
                clear hK K
                repeat (
                  with_reducible refine wpQuiet_step (fun K hK => ?_)
                  go_simp
                  refine hK _ ?_
                  clear hK K)
                with_reducible refine wpQuiet_step (fun K hK => ?_)
                go_simp
                apply Exists.intro
                refine ⟨fun p => ?_, hK _ ?_⟩
                exact (HK.out _ (bthen hb2.out p.h)).mono fun e w5 ⟨he, hb⟩ => ⟨he, p.step (Nat.le_refl _) hb⟩
                clear hK K
                repeat (
                  with_reducible refine wpQuiet_step (fun K hK => ?_)
                  go_simp
                  refine hK _ ?_
                  clear hK K)
                refine wpQuiet_nil ?_
                rintro _ ⟨p, rfl⟩
                go_wp2_with fail
                go_roundw
                case rel => exact ⟨k + 1, by omega, by go_num, Hall, bthen hb2.out p.h⟩
                case measure => simp [intOf]; omega
    · have He : Hid (limE t l fixed = 0) := by
        show _ = _
        unfold limE
        rw [if_neg hlim]
        exact fldsE_done fun j g hj => hall.out j g hj (by have := (List.getElem?_eq_some_iff.1 hj).1; omega)
      go_wp2_with fail
      go_ret
      exact ⟨by rw [He.out]; rfl, Hbw.out⟩
end Go.Proofs.YtmcgcanpaffggaaDoor
