/-
  Contracts of package value's Right and of the document's own.
-/
import Derived.Test.YtbbdmphclnnejaaDoorValC
namespace Go.Proofs.YtbbdmphclnnejaaDoor
open Go.RowKit

theorem emp_dec (s : ByteArray) : (s.toList == []) = decide (bs s = []) := by
  rw [ByteArray.toList_eq]
  show (bs s == []) = _
  cases bs s <;> simp
theorem zero_dec (n : Int) : (n == 0) = decide (n = 0) := by
  by_cases h : n = 0 <;> simp [h]
theorem rightV_cases (k n : Int) (l : List UInt8) : (k = 0 ∧ rightV k n l = (decide (n = 0) && decide (l = []))) ∨ (k = 1 ∧ rightV k n l = (fitsB n 32 && decide (l = []))) ∨ (k = 2 ∧ rightV k n l = decide (l = [])) ∨
    (k = 3 ∧ rightV k n l = (decide (n = 0) && decide (l.length ≤ 120) && (sg l).isSome)) ∨ (k = 4 ∧ rightV k n l = (decide (n = 0) && decide (l.length ≤ 120))) ∨ (k ≠ 0 ∧ k ≠ 1 ∧ k ≠ 2 ∧ k ≠ 3 ∧ k ≠ 4 ∧ rightV k n l = false) := by
  by_cases h0 : k = 0
  · subst h0; exact .inl ⟨rfl, rfl⟩
  by_cases h1 : k = 1
  · subst h1; exact .inr (.inl ⟨rfl, rfl⟩)
  by_cases h2 : k = 2
  · subst h2; exact .inr (.inr (.inl ⟨rfl, rfl⟩))
  by_cases h3 : k = 3
  · subst h3; exact .inr (.inr (.inr (.inl ⟨rfl, rfl⟩)))
  by_cases h4 : k = 4
  · subst h4; exact .inr (.inr (.inr (.inr (.inl ⟨rfl, rfl⟩))))
  exact .inr (.inr (.inr (.inr (.inr ⟨h0, h1, h2, h3, h4, by unfold rightV; rw [if_neg h0, if_neg h1, if_neg h2, if_neg h3, if_neg h4]⟩))))
theorem txE_zero (l : List UInt8) : ((txE l : Int) == 0) = (decide (l.length ≤ 120) && (sg l).isSome) := by
  unfold txE
  by_cases h : 120 < l.length
  · have : decide (l.length ≤ 120) = false := by simp; omega
    rw [if_pos h, this]; rfl
  · have : decide (l.length ≤ 120) = true := by simp; omega
    rw [if_neg h, this]
    cases (sg l).isSome <;> rfl
theorem byE_zero (l : List UInt8) : ((byE l : Int) == 0) = decide (l.length ≤ 120) := by
  unfold byE
  by_cases h : 120 < l.length
  · have : decide (l.length ≤ 120) = false := by simp; omega
    rw [if_pos h, this]; rfl
  · have : decide (l.length ≤ 120) = true := by simp; omega
    rw [if_neg h, this]; rfl

set_option maxRecDepth 100000 in
set_option maxHeartbeats 1600000 in
theorem vright_any (k n : Int) (s : ByteArray) (w : World) (ht : UTab w) : Calls Tryd.prog 23 #[VV k n s] w fun e w' => e = .returned (.bool (rightV k n (bs s))) ∧ Below w.heap.size w w' := by
  have HT := Lib.hid ht; clear ht
  rcases rightV_cases k n (bs s) with ⟨rfl, hv⟩ | ⟨rfl, hv⟩ | ⟨rfl, hv⟩ | ⟨rfl, hv⟩ | ⟨rfl, hv⟩ | ⟨h0, h1, h2, h3, h4, hv⟩
  · have Hv := Lib.hid hv; clear hv
    have e1 := emp_dec s
    have e2 := zero_dec n
    generalize decide (bs s = []) = b at e1 Hv
    generalize decide (n = 0) = c at e2 Hv
    cases b <;> cases c
    all_goals
      go_enter Tryd.func23, Tryd.ntmps23
      go_wp2_with fail
      go_ret
      exact ⟨by rw [Hv.out]; rfl, by go_grown⟩
  · have Hv := Lib.hid hv; clear hv
    have e1 := emp_dec s
    have HF := fun w => fits32 n w
    generalize decide (bs s = []) = b at e1 Hv
    generalize fitsB n 32 = c at HF Hv
    cases b <;> cases c
    all_goals
      go_enter Tryd.func23, Tryd.ntmps23
      go_wp2_with (go_at_call 31; refine (HF _).mono ?_; rintro e w1 ⟨rfl, rfl⟩)
      go_ret
      exact ⟨by rw [Hv.out]; rfl, by go_grown⟩
  · have Hv := Lib.hid hv; clear hv
    have e1 := emp_dec s
    generalize decide (bs s = []) = b at e1 Hv
    cases b
    all_goals
      go_enter Tryd.func23, Tryd.ntmps23
      go_wp2_with fail
      go_ret
      exact ⟨by rw [Hv.out]; rfl, by go_grown⟩
  · have Hv := Lib.hid hv; clear hv
    have e2 := zero_dec n
    have HC := fun w ht => checkText_any s w ht
    have e3 := txE_zero (bs s)
    rw [Bool.and_assoc, ← e3] at Hv
    clear e3
    generalize decide (n = 0) = c at e2 Hv
    generalize (txE (bs s) : Nat) = x at HC Hv
    have HC' := Lib.hid HC; clear HC
    cases c
    · go_enter Tryd.func23, Tryd.ntmps23
      go_wp2_with fail
      go_ret
      exact ⟨by rw [Hv.out]; rfl, by go_grown⟩
    · cases hx : ((x : Int) == 0)
      all_goals
        rw [hx] at Hv
        go_enter Tryd.func23, Tryd.ntmps23
        go_wp2_with fail
        refine (HC'.out _ (HT.out.below ((Below.refl _ _).alloc (Nat.le_refl _) _) (Nat.le_refl _))).mono ?_
        rintro e w1 ⟨rfl, hb⟩
        have hb' := below_new hb
        go_wp2_with fail
        go_ret
        exact ⟨by rw [Hv.out]; rfl, by go_grown⟩
  · have Hv := Lib.hid hv; clear hv
    have e2 := zero_dec n
    have HC := fun w => checkBytes_any s w
    have e3 := byE_zero (bs s)
    rw [← e3] at Hv
    clear e3
    generalize decide (n = 0) = c at e2 Hv
    generalize (byE (bs s) : Nat) = x at HC Hv
    have HC' := Lib.hid HC; clear HC
    cases c
    · go_enter Tryd.func23, Tryd.ntmps23
      go_wp2_with fail
      go_ret
      exact ⟨by rw [Hv.out]; rfl, by go_grown⟩
    · cases hx : ((x : Int) == 0)
      all_goals
        rw [hx] at Hv
        go_enter Tryd.func23, Tryd.ntmps23
        go_wp2_with fail
        refine (HC'.out _).mono ?_
        rintro e w1 ⟨rfl, rfl⟩
        go_wp2_with fail
        go_ret
        exact ⟨by rw [Hv.out]; rfl, by go_grown⟩
  · have Hv := Lib.hid hv; clear hv
    have d0 : (k == 0) = false := by simpa using h0
    have d1 : (k == 1) = false := by simpa using h1
    have d2 : (k == 2) = false := by simpa using h2
    have d3 : (k == 3) = false := by simpa using h3
    have d4 : (k == 4) = false := by simpa using h4
    clear h0 h1 h2 h3 h4
    go_enter Tryd.func23, Tryd.ntmps23
    go_wp2_with fail
    go_ret
    exact ⟨by rw [Hv.out]; rfl, by go_grown⟩

set_option maxRecDepth 100000 in
set_option maxHeartbeats 1600000 in
theorem vrright_any (k n : Int) (s : ByteArray) (w : World) (h1 : -9223372036854775808 ≤ n) (h2 : n < 9223372036854775808) : Calls Tryd.prog 22 #[VV k n s] w fun e w' => e = .returned (.bool (rightV k n (bs s))) ∧ Below w.heap.size w w' := by
  have HF0 := Lib.hid (fun w => rfits32 n w h1 h2); clear h1 h2
  rcases rightV_cases k n (bs s) with ⟨rfl, hv⟩ | ⟨rfl, hv⟩ | ⟨rfl, hv⟩ | ⟨rfl, hv⟩ | ⟨rfl, hv⟩ | ⟨h0, h1, h2, h3, h4, hv⟩
  · have Hv := Lib.hid hv; clear hv
    have e1 := emp_dec s
    have e2 := zero_dec n
    generalize decide (bs s = []) = b at e1 Hv
    generalize decide (n = 0) = c at e2 Hv
    cases b <;> cases c
    all_goals
      go_enter Tryd.func22, Tryd.ntmps22
      go_wp2_with fail
      go_ret
      exact ⟨by rw [Hv.out]; rfl, by go_grown⟩
  · have Hv := Lib.hid hv; clear hv
    have e1 := emp_dec s
    generalize decide (bs s = []) = b at e1 Hv
    generalize fitsB n 32 = c at HF0 Hv
    cases b <;> cases c
    all_goals
      go_enter Tryd.func22, Tryd.ntmps22
      go_wp2_with (go_at_call 30; refine (HF0.out _).mono ?_; rintro e w1 ⟨rfl, rfl⟩)
      go_ret
      exact ⟨by rw [Hv.out]; rfl, by go_grown⟩
  · have Hv := Lib.hid hv; clear hv
    have e1 := emp_dec s
    generalize decide (bs s = []) = b at e1 Hv
    cases b
    all_goals
      go_enter Tryd.func22, Tryd.ntmps22
      go_wp2_with fail
      go_ret
      exact ⟨by rw [Hv.out]; rfl, by go_grown⟩
  · have Hv := Lib.hid hv; clear hv
    have e2 := zero_dec n
    generalize decide (n = 0) = c at e2 Hv
    rw [bs_length] at Hv
    cases c
    · go_enter Tryd.func22, Tryd.ntmps22
      go_wp2_with fail
      go_ret
      exact ⟨by rw [Hv.out]; rfl, by go_grown⟩
    · by_cases hx : s.size ≤ 120
      · have d : decide ((s.size : Int) ≤ 120) = true := by simp; omega
        have d' : decide (s.size ≤ 120) = true := by simp; omega
        rw [d'] at Hv; clear d'
        have HC' := Lib.hid (fun w => rright_any s w (by omega))
        generalize (sg (bs s)).isSome = b at HC' Hv
        cases b
        all_goals
          go_enter Tryd.func22, Tryd.ntmps22
          go_wp2_with fail
          refine (HC'.out _).mono ?_
          rintro e w1 ⟨rfl, hb⟩
          have hb' := below_new hb
          go_wp2_with fail
          go_ret
          exact ⟨by rw [Hv.out]; rfl, by go_grown⟩
      · have d : decide ((s.size : Int) ≤ 120) = false := by simp; omega
        have d' : decide (s.size ≤ 120) = false := by simp; omega
        rw [d'] at Hv; clear d'
        go_enter Tryd.func22, Tryd.ntmps22
        go_wp2_with fail
        go_ret
        exact ⟨by rw [Hv.out]; rfl, by go_grown⟩
  · have Hv := Lib.hid hv; clear hv
    have e2 := zero_dec n
    generalize decide (n = 0) = c at e2 Hv
    rw [bs_length] at Hv
    have hd : decide ((s.size : Int) ≤ 120) = decide (s.size ≤ 120) := by rw [decide_eq_decide]; omega
    generalize decide (s.size ≤ 120) = b at hd Hv
    cases c <;> cases b
    all_goals
      go_enter Tryd.func22, Tryd.ntmps22
      go_wp2_with fail
      go_ret
      exact ⟨by rw [Hv.out]; rfl, by go_grown⟩
  · have Hv := Lib.hid hv; clear hv
    have d0 : (k == 0) = false := by simpa using h0
    have d1 : (k == 1) = false := by simpa using h1
    have d2 : (k == 2) = false := by simpa using h2
    have d3 : (k == 3) = false := by simpa using h3
    have d4 : (k == 4) = false := by simpa using h4
    clear h0 h1 h2 h3 h4
    go_enter Tryd.func22, Tryd.ntmps22
    go_wp2_with fail
    go_ret
    exact ⟨by rw [Hv.out]; rfl, by go_grown⟩
end Go.Proofs.YtbbdmphclnnejaaDoor
