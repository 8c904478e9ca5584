/-
  Contracts of layer word's functions of numbers alone, and of the document's own: what each returns, and that it leaves the world as it is.
-/
import Derived.Test.YtbbdmphclnnejaaDoorRows
import Derived.Test.YtbbdmphclnnejaaDoorWordMath
import Derived.WalkKit
import Derived.WalkSpells
import Derived.WalkLawsBesides
import Derived.Lib.Hide
namespace Go.Proofs.YtbbdmphclnnejaaDoor
open Go.RowKit

theorem ret_int {k : IntKind} {a b : Int} (h : a = b) : Ending.returned (.int k a) = .returned (.int k b) := by rw [h]

set_option maxHeartbeats 400000 in
theorem isWidth_yes (n : Int) (w : World) (h1 : 1 ≤ n) (h2 : n ≤ 64) :
    Calls Tryd.prog 44 #[.int .i64 n] w fun e w' => e = .returned (.bool true) ∧ w = w' := by
  go_enter Tryd.func44, Tryd.ntmps44
  go_wp2
  go_ret
  exact ⟨rfl, rfl⟩
set_option maxHeartbeats 400000 in
theorem isWidth_no (n : Int) (w : World) (h1 : n < 1 ∨ 64 < n) :
    Calls Tryd.prog 44 #[.int .i64 n] w fun e w' => e = .returned (.bool false) ∧ w = w' := by
  rcases h1 with h | h
  · have hd : decide (1 ≤ n) = false := by simp; omega
    go_enter Tryd.func44, Tryd.ntmps44
    go_wp2
    go_ret
    exact ⟨rfl, rfl⟩
  · have hd : decide (1 ≤ n) = true := by simp; omega
    have hd2 : decide (n ≤ 64) = false := by simp; omega
    go_enter Tryd.func44, Tryd.ntmps44
    go_wp2
    go_ret
    exact ⟨rfl, rfl⟩

set_option maxHeartbeats 400000 in
theorem low_any (n : Int) (b : Nat) (w : World) (h1 : 1 ≤ b) (h2 : b ≤ 64) :
    Calls Tryd.prog 45 #[.int .i64 n, .int .i64 b] w fun e w' => e = .returned (.int .i64 (low n b)) ∧ w = w' := by
  have e0 := Lib.hid (low_shift n b h1 h2)
  go_enter Tryd.func45, Tryd.ntmps45
  go_wp2_with (go_at_call 44; refine (isWidth_yes _ _ (by omega) (by omega)).mono ?_; rintro e w' ⟨rfl, rfl⟩)
  go_ret
  exact ⟨ret_int e0.out, rfl⟩
set_option maxHeartbeats 400000 in
theorem low_no (n b : Int) (w : World) (h1 : b < 1 ∨ 64 < b) :
    Calls Tryd.prog 45 #[.int .i64 n, .int .i64 b] w fun e w' => e = .returned (.int .i64 0) ∧ w = w' := by
  go_enter Tryd.func45, Tryd.ntmps45
  go_wp2_with (go_at_call 44; refine (isWidth_no _ _ h1).mono ?_; rintro e w' ⟨rfl, rfl⟩)
  go_ret
  exact ⟨rfl, rfl⟩

/-- does n fit b bits? -/
def fitsB (n : Int) (b : Nat) : Bool := low n b == n

set_option maxHeartbeats 400000 in
theorem fits_any (n : Int) (b : Nat) (w : World) (h1 : 1 ≤ b) (h2 : b ≤ 64) :
    Calls Tryd.prog 31 #[.int .i64 n, .int .i64 b] w fun e w' => e = .returned (.bool (fitsB n b)) ∧ w = w' := by
  go_enter Tryd.func31, Tryd.ntmps31
  go_wp2_with (first | (go_at_call 44; refine (isWidth_yes _ _ (by omega) (by omega)).mono ?_; rintro e w' ⟨rfl, rfl⟩) | (go_at_call 45; refine (low_any _ _ _ h1 h2).mono ?_; rintro e w' ⟨rfl, rfl⟩))
  go_ret
  exact ⟨rfl, rfl⟩
set_option maxHeartbeats 400000 in
theorem fits_no (n b : Int) (w : World) (h1 : b < 1 ∨ 64 < b) :
    Calls Tryd.prog 31 #[.int .i64 n, .int .i64 b] w fun e w' => e = .returned (.bool false) ∧ w = w' := by
  go_enter Tryd.func31, Tryd.ntmps31
  go_wp2_with (go_at_call 44; refine (isWidth_no _ _ h1).mono ?_; rintro e w' ⟨rfl, rfl⟩)
  go_ret
  exact ⟨rfl, rfl⟩

set_option maxHeartbeats 400000 in
theorem half_any (b : Nat) (w : World) (h1 : 1 ≤ b) (h2 : b ≤ 63) :
    Calls Tryd.prog 43 #[.int .i64 b] w fun e w' => e = .returned (.int .i64 (2 ^ (b - 1))) ∧ w = w' := by
  obtain ⟨k, rfl⟩ : ∃ k : Nat, b = k + 1 := ⟨b - 1, by omega⟩
  rw [Nat.add_sub_cancel]
  go_enter Tryd.func43, Tryd.ntmps43
  go_wp2
  go_loop [3, 4] (fun n i => ∃ j : Nat, j ≤ k ∧ i = .int .i64 (j + 1 : Nat) ∧ n = .int .i64 (2 ^ j)) (fun _ i => k + 1 - (intOf i).toNat)
  case atStart => exact ⟨0, by omega, rfl, rfl⟩
  case round =>
    obtain ⟨j, hj, rfl, rfl⟩ := hrel
    by_cases hlt : j < k
    · have hp : (2:Int) ^ j ≤ 2305843009213693952 := two_pow_le j 61 (by omega)
      have hp0 := two_pow_pos j
      have hs : (2 : Int) ^ (j + 1) = 2 * 2 ^ j := by rw [Int.pow_succ]; omega
      generalize hq : (2:Int) ^ j = q at *
      have Hq := Lib.hid hq; clear hq
      have Hs := Lib.hid hs; clear hs
      go_wp2
      go_round
      case rel => exact ⟨j + 1, by omega, by go_num, by rw [Hs.out]⟩
      case measure => simp [intOf]; omega
    · go_wp2
      go_ret
      obtain rfl : j = k := by omega
      exact ⟨rfl, rfl⟩

set_option maxHeartbeats 400000 in
theorem rfits_no (n b : Int) (w : World) (h1 : b < 1 ∨ 64 < b) :
    Calls Tryd.prog 30 #[.int .i64 n, .int .i64 b] w fun e w' => e = .returned (.bool false) ∧ w = w' := by
  rcases h1 with h | h
  · have hd : decide (b < 1) = true := by simp; omega
    go_enter Tryd.func30, Tryd.ntmps30
    go_wp2
    go_ret
    exact ⟨rfl, rfl⟩
  · have hd : decide (b < 1) = false := by simp; omega
    have hd2 : decide (64 < b) = true := by simp; omega
    go_enter Tryd.func30, Tryd.ntmps30
    go_wp2
    go_ret
    exact ⟨rfl, rfl⟩

theorem fitsB_64 (n : Int) (h1 : -9223372036854775808 ≤ n) (h2 : n < 9223372036854775808) : fitsB n 64 = true := by
  unfold fitsB; rw [low_same n 64 (by omega) (by simpa using h1) (by simpa using h2)]; simp

theorem fitsB_eq (n : Int) (b : Nat) (h : 1 ≤ b) : fitsB n b = (decide (-2 ^ (b - 1) ≤ n) && decide (n < 2 ^ (b - 1))) := by
  unfold fitsB
  rw [Bool.eq_iff_iff]
  simp [low_eq_iff n b h]

set_option maxHeartbeats 400000 in
theorem rfits_any (n : Int) (b : Nat) (w : World) (h1 : 1 ≤ b) (h2 : b ≤ 64) (h3 : -9223372036854775808 ≤ n) (h4 : n < 9223372036854775808) :
    Calls Tryd.prog 30 #[.int .i64 n, .int .i64 b] w fun e w' => e = .returned (.bool (fitsB n b)) ∧ w = w' := by
  have hd : decide ((b : Int) < 1) = false := by simp; omega
  have hd2 : decide (64 < (b : Int)) = false := by simp; omega
  by_cases hb : b = 64
  · subst hb
    have H := Lib.hid (fitsB_64 n h3 h4)
    go_enter Tryd.func30, Tryd.ntmps30
    go_wp2
    go_ret
    exact ⟨by rw [H.out]; rfl, rfl⟩
  · have hne : ((b : Int) == 64) = false := by simp; omega
    have hp : (2:Int) ^ (b - 1) ≤ 4611686018427387904 := two_pow_le (b - 1) 62 (by omega)
    have hp0 := two_pow_pos (b - 1)
    have H := Lib.hid (fitsB_eq n b h1)
    have hh := fun w => half_any b w h1 (by omega)
    generalize hq : (2:Int) ^ (b - 1) = q at *
    have Hh := Lib.hid hh; clear hh
    have Hq := Lib.hid hq; clear hq
    by_cases hc : -q ≤ n
    · have hc' : decide (-q ≤ n) = true := by simp; omega
      go_enter Tryd.func30, Tryd.ntmps30
      go_wp2_with (go_at_call 43; refine (Hh.out _).mono ?_; rintro e w' ⟨rfl, rfl⟩)
      go_ret
      exact ⟨by rw [H.out, hc']; rfl, rfl⟩
    · have hc' : decide (-q ≤ n) = false := by simp; omega
      go_enter Tryd.func30, Tryd.ntmps30
      go_wp2_with (go_at_call 43; refine (Hh.out _).mono ?_; rintro e w' ⟨rfl, rfl⟩)
      go_ret
      exact ⟨by rw [H.out, hc']; rfl, rfl⟩

theorem low_63 (n : Int) (h1 : -9223372036854775808 ≤ n) (h2 : n < 9223372036854775808) :
    (4611686018427387904 ≤ n → low n 63 = n - 4611686018427387904 - 4611686018427387904) ∧ (n < -4611686018427387904 → low n 63 = n + 4611686018427387904 + 4611686018427387904) ∧
    (-4611686018427387904 ≤ n → n < 4611686018427387904 → low n 63 = n) := by
  unfold low
  simp only [show (63 : Nat) - 1 = 62 from rfl, show (2 : Int) ^ 62 = 4611686018427387904 from rfl, show (2 : Int) ^ 63 = 9223372036854775808 from rfl]
  omega

theorem half_63 (w : World) : Calls Tryd.prog 43 #[.int .i64 63] w fun e w' => e = .returned (.int .i64 4611686018427387904) ∧ w = w' :=
  half_any 63 w (by omega) (by omega)

end Go.Proofs.YtbbdmphclnnejaaDoor
