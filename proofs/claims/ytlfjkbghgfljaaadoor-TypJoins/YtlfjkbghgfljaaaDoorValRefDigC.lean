/-
  Contract of the document's own Digits.
-/
import Derived.Test.YtlfjkbghgfljaaaDoorValDigC
namespace Go.Proofs.YtlfjkbghgfljaaaDoor
open Go.RowKit

/-- the ten digits as the document has them -/
def ten : ByteArray := ⟨#[48, 49, 50, 51, 52, 53, 54, 55, 56, 57]⟩
theorem ten_cut (n : Int) (h0 : 0 ≤ n) (h1 : n < 10) : ten.extract n.toNat (n + 1).toNat = ⟨(dz n).toArray⟩ := by
  obtain ⟨k, rfl⟩ := Int.eq_ofNat_of_zero_le h0
  have h : ∀ k : Fin 10, bs (ten.extract k.1 (k.1 + 1)) = [dg k.1] := by
    intro k
    rw [bs_extract]
    revert k; decide
  have hk : k < 10 := by omega
  refine bs_eq ?_
  rw [dz_pos h0, Int.natAbs_natCast, dn_lt hk, Int.toNat_natCast, show ((k : Int) + 1).toNat = k + 1 by omega]
  exact h ⟨k, hk⟩
set_option maxRecDepth 100000 in
set_option maxHeartbeats 800000 in
theorem rdigits_one (n : Int) (w : World) (h0 : 0 ≤ n) (h1 : n < 10) : Calls Tryd.prog 35 #[.int .i64 n] w fun e w' => e = .returned (.string ⟨(dz n).toArray⟩) ∧ w = w' := by
  have d1 : decide (-10 < n) = true := by simp; omega
  have d2 : decide (n < 0) = false := by simp; omega
  have d3 : decide (0 ≤ n) = true := by simp; omega
  have d4 : decide (n < 10) = true := by simp; omega
  have Hc := Lib.hid (ten_cut n h0 h1)
  unfold ten at Hc
  go_enter Tryd.func35, Tryd.ntmps35
  go_wp2_with fail
  go_ret
  exact ⟨by rw [← Hc.out]; rfl, rfl⟩
set_option maxRecDepth 100000 in
set_option maxHeartbeats 800000 in
theorem rdigits_minus (n : Int) (w : World) (h0 : -10 < n) (h1 : n < 0) : Calls Tryd.prog 35 #[.int .i64 n] w fun e w' => e = .returned (.string ⟨(dz n).toArray⟩) ∧ w = w' := by
  have d1 : decide (-10 < n) = true := by simp; omega
  have d2 : decide (n < 0) = true := by simp; omega
  have H1 := Lib.hid (fun w => rdigits_one (-n) w (by omega) (by omega))
  have Hs : Hid (⟨#[45]⟩ ++ ⟨(dz (-n)).toArray⟩ = (⟨(dz n).toArray⟩ : ByteArray)) := by
    show _ = _
    refine bs_eq ?_
    rw [bs_append, dz_neg h1]
    show [45] ++ dz (-n) = _
    rw [dz_pos (by omega), Int.natAbs_neg]; rfl
  have hx : (⟨(dz (-n)).toArray⟩ : ByteArray).size ≤ 20 := by rw [ba_size]; exact dz_len _ (by omega) (by omega)
  generalize (⟨(dz (-n)).toArray⟩ : ByteArray) = X at H1 Hs hx
  have hadd := fun w' => run_string_add_sum (P := Tryd.prog) (w := w') ⟨#[45]⟩ X (by show 1 + X.size ≤ _; omega)
  go_enter Tryd.func35, Tryd.ntmps35
  go_wp2_with fail
  refine (H1.out _).mono ?_
  rintro e w1 ⟨rfl, rfl⟩
  go_wp2_with fail
  go_ret
  exact ⟨by rw [← Hs.out]; rfl, rfl⟩
theorem dz_step (n : Int) (h : 10 ≤ n ∨ n ≤ -10) : dz n = dz (n.tdiv 10) ++ dz (n.natAbs % 10 : Nat) := by
  rw [dz_pos (z := (n.natAbs % 10 : Nat)) (by omega), Int.natAbs_natCast, dn_lt (by omega : n.natAbs % 10 < 10)]
  have e : (n.tdiv 10).natAbs = n.natAbs / 10 := by rw [Int.natAbs_tdiv]; rfl
  rcases h with h | h
  · have h0 : 0 ≤ n.tdiv 10 := Int.tdiv_nonneg (by omega) (by omega)
    rw [dz_pos (by omega), dz_pos h0, e, dn_ge (by omega)]
  · have h0 : n.tdiv 10 < 0 := by
      obtain ⟨m, rfl⟩ : ∃ m : Nat, n = -(m : Int) := ⟨n.natAbs, by omega⟩
      rw [Int.neg_tdiv]
      have : ((m : Int)).tdiv 10 = ((m / 10 : Nat) : Int) := rfl
      rw [this]; omega
    rw [dz_neg (by omega), dz_neg h0, e, dn_ge (by omega)]; rfl
theorem tmod_neg (n : Int) (h : n ≤ 0) : n.tmod 10 = -((n.natAbs % 10 : Nat) : Int) := by
  obtain ⟨m, rfl⟩ : ∃ m : Nat, n = -(m : Int) := ⟨n.natAbs, by omega⟩
  rw [Int.neg_tmod, Int.natAbs_neg, Int.natAbs_natCast]
  rfl
set_option maxRecDepth 100000 in
set_option maxHeartbeats 800000 in
theorem rdigits_aux (N : Nat) : ∀ (n : Int) (w : World), n.natAbs ≤ N → -9223372036854775808 ≤ n → n < 9223372036854775808 → Calls Tryd.prog 35 #[.int .i64 n] w fun e w' => e = .returned (.string ⟨(dz n).toArray⟩) ∧ w = w' := by
  induction N with
  | zero => exact fun n w h _ _ => rdigits_one n w (by omega) (by omega)
  | succ N ih =>
    intro n w hN h1 h2
    by_cases hs : 0 ≤ n ∧ n < 10
    · exact rdigits_one n w hs.1 hs.2
    by_cases hs2 : -10 < n ∧ n < 0
    · exact rdigits_minus n w hs2.1 hs2.2
    have e : (n.tdiv 10).natAbs = n.natAbs / 10 := by rw [Int.natAbs_tdiv]; rfl
    have H1 := Lib.hid (fun w => ih (n.tdiv 10) w (by omega) (by omega) (by omega))
    have H2 := Lib.hid (fun w => rdigits_one ((n.natAbs % 10 : Nat) : Int) w (by omega) (by omega))
    have Hs : Hid (⟨(dz (n.tdiv 10)).toArray⟩ ++ ⟨(dz ((n.natAbs % 10 : Nat) : Int)).toArray⟩ = (⟨(dz n).toArray⟩ : ByteArray)) := by
      show _ = _
      refine bs_eq ?_
      rw [bs_append, bs_mk, bs_mk, bs_mk, ← dz_step n (by omega)]
    have hx : (⟨(dz (n.tdiv 10)).toArray⟩ : ByteArray).size ≤ 20 := by rw [ba_size]; exact dz_len _ (by omega) (by omega)
    have hy : (⟨(dz ((n.natAbs % 10 : Nat) : Int)).toArray⟩ : ByteArray).size ≤ 20 := by rw [ba_size]; exact dz_len _ (by omega) (by omega)
    generalize (⟨(dz (n.tdiv 10)).toArray⟩ : ByteArray) = X at H1 Hs hx
    generalize (⟨(dz ((n.natAbs % 10 : Nat) : Int)).toArray⟩ : ByteArray) = Y at H2 Hs hy
    have hadd := fun w' => run_string_add_sum (P := Tryd.prog) (w := w') X Y (by omega)
    by_cases hp : 10 ≤ n
    · have t1 : n.tdiv 10 = n / 10 := Int.tdiv_eq_ediv_of_nonneg (by omega)
      rw [t1] at H1
      have t2 : ((n.natAbs % 10 : Nat) : Int) = n % 10 := by omega
      rw [t2] at H2
      have d1 : decide (-10 < n) = true := by simp; omega
      have d2 : decide (n < 0) = false := by simp; omega
      have d3 : decide (0 ≤ n) = true := by simp; omega
      have d4 : decide (n < 10) = false := by simp; omega
      have d5 : decide (n % 10 < 0) = false := by simp; omega
      clear t1 t2 e ih hs hs2 hN
      go_enter Tryd.func35, Tryd.ntmps35
      go_wp2_with fail
      refine (H1.out _).mono ?_
      rintro e w1 ⟨rfl, rfl⟩
      go_wp2_with fail
      refine (H2.out _).mono ?_
      rintro e w1 ⟨rfl, rfl⟩
      go_wp2_with fail
      go_ret
      exact ⟨by rw [← Hs.out]; rfl, rfl⟩
    · have t2 := tmod_neg n (by omega)
      have d1 : decide (-10 < n) = false := by simp; omega
      have d2 : decide (0 ≤ n) = false := by simp; omega
      by_cases hz : n.natAbs % 10 = 0
      · have t3 : n.tmod 10 = 0 := by rw [t2, hz]; rfl
        rw [hz] at H2
        clear t2 e ih hs hs2 hN hp hz
        go_enter Tryd.func35, Tryd.ntmps35
        go_wp2_with fail
        refine (H1.out _).mono ?_
        rintro e w1 ⟨rfl, rfl⟩
        go_wp2_with fail
        refine (H2.out _).mono ?_
        rintro e w1 ⟨rfl, rfl⟩
        go_wp2_with fail
        go_ret
        exact ⟨by rw [← Hs.out]; rfl, rfl⟩
      · have d3 : decide (n.tmod 10 < 0) = true := by simp; omega
        have t3 : wrap64 (-n.tmod 10) = ((n.natAbs % 10 : Nat) : Int) := by rw [t2]; go_arith
        rw [← t3] at H2
        clear t2 e ih hs hs2 hN hp hz t3
        go_enter Tryd.func35, Tryd.ntmps35
        go_wp2_with fail
        refine (H1.out _).mono ?_
        rintro e w1 ⟨rfl, rfl⟩
        go_wp2_with fail
        refine (H2.out _).mono ?_
        rintro e w1 ⟨rfl, rfl⟩
        go_wp2_with fail
        go_ret
        exact ⟨by rw [← Hs.out]; rfl, rfl⟩
theorem rdigits_any (n : Int) (w : World) (h1 : -9223372036854775808 ≤ n) (h2 : n < 9223372036854775808) : Calls Tryd.prog 35 #[.int .i64 n] w fun e w' => e = .returned (.string ⟨(dz n).toArray⟩) ∧ w = w' :=
  rdigits_aux n.natAbs n w (Nat.le_refl _) h1 h2
end Go.Proofs.YtlfjkbghgfljaaaDoor
