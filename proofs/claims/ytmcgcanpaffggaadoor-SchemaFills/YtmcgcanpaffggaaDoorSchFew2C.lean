/-
  Contracts of the law's own FewValues and FewFields of layer 8.
-/
import Derived.Test.YtmcgcanpaffggaaDoorPart1
import Derived.Test.YtmcgcanpaffggaaDoorPart2
import Derived.Test.YtmcgcanpaffggaaDoorPart3
namespace Go.Proofs.YtmcgcanpaffggaaDoor
open Go.RowKit

set_option maxRecDepth 100000 in
set_option maxHeartbeats 1600000 in
theorem fewv_any (A : Option Addr) (cp : Nat) (l : List Vb) (w : World) (hA : ValsAt w w.heap.size A l) (hl : l.length ≤ maxLen) :
    Calls Tryd.prog 31 #[.slice A l.length cp] w fun e w' => e = .returned (.bool (fewV l)) ∧ Below w.heap.size w w' := by
  unfold maxLen at hl
  have HA := Lib.hid hA; clear hA
  have Hv : Hid (fewV l = (decide ((l.length : Int) ≤ 20) && l.all fun v => shortB v.2.2)) := rfl
  have e1 : decide (20 < (l.length : Int)) = !decide ((l.length : Int) ≤ 20) := by apply bool_eq; simp
  generalize decide ((l.length : Int) ≤ 20) = b1 at Hv e1
  cases b1
  · replace e1 : decide (20 < (l.length : Int)) = true := e1
    go_enter Tryd.func31, Tryd.ntmps31
    go_wp2_with fail
    go_ret
    exact ⟨by rw [Hv.out]; rfl, Below.refl _ _⟩
  replace e1 : decide (20 < (l.length : Int)) = false := e1
  replace Hv : Hid (fewV l = l.all fun v => shortB v.2.2) := by show _ = _; rw [Hv.out]; simp
  go_enter Tryd.func31, Tryd.ntmps31
  go_wp2_with fail
  clear e1
  go_loop [3] (fun i => ∃ k : Nat, k ≤ l.length ∧ i = .int .i64 k ∧ Hid (∀ j c, l[j]? = some c → j < k → shortB c.2.2 = true)) (fun i => l.length - (intOf i).toNat)
  case atStart => exact ⟨0, by omega, rfl, fun j v _ h => absurd h (by omega)⟩
  case round =>
    obtain ⟨k, hk, rfl, hall⟩ := hrel
    by_cases hlt : k < l.length
    · obtain ⟨x, hx⟩ : ∃ x, l[k]? = some x := ⟨l[k], by simp [hlt]⟩
      have Hx := Lib.hid hx
      obtain ⟨b, off, rfl, hbB, ff⟩ := HA.out (by omega)
      obtain ⟨f0, f1, f2⟩ := ff k x hx
      clear hx ff
      have HN1 := Lib.hid (fun w => short8_any x.2.2 w)
      cases h1 : shortB x.2.2
      · have Hno : Hid ((l.all fun v => shortB v.2.2) = false) := all_stop8 Hx.out h1
        rw [h1] at HN1
        go_wp2_with fail
        refine (HN1.out _).mono ?_
        rintro e w1 ⟨rfl, rfl⟩
        go_wp2_with fail
        go_ret
        exact ⟨by rw [Hv.out, Hno.out]; rfl, Below.refl _ _⟩
      · have Hall : Hid (∀ j c, l[j]? = some c → j < k + 1 → shortB c.2.2 = true) := fun j y hj hk => by
          by_cases e : j = k
          · subst e
            rw [Hx.out] at hj
            cases hj
            exact h1
          · exact hall.out j y hj (by omega)
        rw [h1] at HN1
        go_wp2_with fail
        refine (HN1.out _).mono ?_
        rintro e w1 ⟨rfl, rfl⟩
        go_wp2_with fail
        go_round
        case rel => exact ⟨k + 1, by omega, by go_num, Hall.out⟩
        case measure => simp [intOf]; omega
    · have Hyes : Hid ((l.all fun v => shortB v.2.2) = true) := all_at fun j x hj => hall.out j x hj (by have := (List.getElem?_eq_some_iff.1 hj).1; omega)
      go_wp2_with fail
      go_ret
      exact ⟨by rw [Hv.out, Hyes.out]; rfl, Below.refl _ _⟩
set_option maxRecDepth 100000 in
set_option maxHeartbeats 1600000 in
theorem fewf_any (A : Option Addr) (cp : Nat) (l : List Fb) (w : World) (hA : FldsAt w w.heap.size A l) (hl : l.length ≤ maxLen) :
    Calls Tryd.prog 37 #[.slice A l.length cp] w fun e w' => e = .returned (.bool (fewF l)) ∧ Below w.heap.size w w' := by
  unfold maxLen at hl
  have HA := Lib.hid hA; clear hA
  have Hv : Hid (fewF l = (decide ((l.length : Int) ≤ 20) && l.all fun f => shortB f.nm && shortB f.s)) := rfl
  have e1 : decide (20 < (l.length : Int)) = !decide ((l.length : Int) ≤ 20) := by apply bool_eq; simp
  generalize decide ((l.length : Int) ≤ 20) = b1 at Hv e1
  cases b1
  · replace e1 : decide (20 < (l.length : Int)) = true := e1
    go_enter Tryd.func37, Tryd.ntmps37
    go_wp2_with fail
    go_ret
    exact ⟨by rw [Hv.out]; rfl, Below.refl _ _⟩
  replace e1 : decide (20 < (l.length : Int)) = false := e1
  replace Hv : Hid (fewF l = l.all fun f => shortB f.nm && shortB f.s) := by show _ = _; rw [Hv.out]; simp
  go_enter Tryd.func37, Tryd.ntmps37
  go_wp2_with fail
  clear e1
  go_loop [3] (fun i => ∃ k : Nat, k ≤ l.length ∧ i = .int .i64 k ∧ Hid (∀ j c, l[j]? = some c → j < k → (shortB c.nm && shortB c.s) = true)) (fun i => l.length - (intOf i).toNat)
  case atStart => exact ⟨0, by omega, rfl, fun j v _ h => absurd h (by omega)⟩
  case round =>
    obtain ⟨k, hk, rfl, hall⟩ := hrel
    by_cases hlt : k < l.length
    · obtain ⟨x, hx⟩ : ∃ x, l[k]? = some x := ⟨l[k], by simp [hlt]⟩
      have Hx := Lib.hid hx
      obtain ⟨b, off, rfl, hbB, f0, f1, f2, f3⟩ := FldsAt.get HA.out k x hx
      clear hx
      have HN1 := Lib.hid (fun w => short8_any x.nm w)
      have HN2 := Lib.hid (fun w => short8_any x.s w)
      cases h1 : shortB x.nm
      · have Hno : Hid ((l.all fun f => shortB f.nm && shortB f.s) = false) := all_stop8 Hx.out (by rw [h1]; rfl)
        rw [h1] at HN1
        go_wp2_with fail
        refine (HN1.out _).mono ?_
        rintro e w1 ⟨rfl, rfl⟩
        go_wp2_with fail
        go_ret
        exact ⟨by rw [Hv.out, Hno.out]; rfl, Below.refl _ _⟩
      rw [h1] at HN1
      cases h2 : shortB x.s
      · have Hno : Hid ((l.all fun f => shortB f.nm && shortB f.s) = false) := all_stop8 Hx.out (by rw [h1, h2]; rfl)
        rw [h2] at HN2
        go_wp2_with fail
        refine (HN1.out _).mono ?_
        rintro e w1 ⟨rfl, rfl⟩
        go_wp2_with fail
        refine (HN2.out _).mono ?_
        rintro e w1 ⟨rfl, rfl⟩
        go_wp2_with fail
        go_ret
        exact ⟨by rw [Hv.out, Hno.out]; rfl, Below.refl _ _⟩
      · have Hall : Hid (∀ j c, l[j]? = some c → j < k + 1 → (shortB c.nm && shortB c.s) = true) := fun j y hj hk => by
          by_cases e : j = k
          · subst e
            rw [Hx.out] at hj
            cases hj
            rw [h1, h2]; rfl
          · exact hall.out j y hj (by omega)
        rw [h2] at HN2
        go_wp2_with fail
        refine (HN1.out _).mono ?_
        rintro e w1 ⟨rfl, rfl⟩
        go_wp2_with fail
        refine (HN2.out _).mono ?_
        rintro e w1 ⟨rfl, rfl⟩
        go_wp2_with fail
        go_round
        case rel => exact ⟨k + 1, by omega, by go_num, Hall.out⟩
        case measure => simp [intOf]; omega
    · have Hyes : Hid ((l.all fun f => shortB f.nm && shortB f.s) = true) := all_at fun j x hj => hall.out j x hj (by have := (List.getElem?_eq_some_iff.1 hj).1; omega)
      go_wp2_with fail
      go_ret
      exact ⟨by rw [Hv.out, Hyes.out]; rfl, Below.refl _ _⟩
theorem fewV_len {l : List Vb} (h : fewV l = true) : l.length ≤ 20 := by
  unfold fewV at h
  simp only [Bool.and_eq_true, decide_eq_true_eq] at h
  omega
end Go.Proofs.YtmcgcanpaffggaaDoor
