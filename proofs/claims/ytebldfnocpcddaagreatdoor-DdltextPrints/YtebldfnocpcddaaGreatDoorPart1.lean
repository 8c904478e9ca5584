/-
  Texts that the proof needs, one behind the other: WordMath, WordNum, Bytes, VarMath, LongMath, Strs, Ints, Tabs, QuietB, FixMath.
-/
import Derived.WalkKit
import Derived.Laws.BitsAllLaws
import Derived.Laws.Bits64
import Derived.Test.YtebldfnocpcddaaGreatDoorRows
import Derived.WalkSpells
import Derived.WalkLawsBesides
import Derived.Lib.Hide
import Derived.Laws.IdiomStrings
import Derived.Deep.RegionLaw
import Derived.Lib.AppendStr
import Derived.Lib.LaidTab
import Derived.LaidMore
import Derived.Stop.Joined
import Derived.Deep.QuietTactic
import Derived.Below

/-
  Plain arithmetic for layer word: zigzag numbers and numbers of so many bits. It speaks of no program.
-/
namespace Go.Proofs.YtebldfnocpcddaaGreatDoor
open Go.RowKit

def zig (n : Int) : Int := if 0 ≤ n then 2 * n else -2 * n - 1
def zag (u : Int) : Int := if u % 2 = 0 then u / 2 else -1 - u / 2

theorem wrap64_eq (n : Int) : wrap64 n = (n + 9223372036854775808) % 18446744073709551616 - 9223372036854775808 := by
  unfold wrap64; omega

theorem zig_bounds (n : Int) (h1 : -9223372036854775808 ≤ n) (h2 : n < 9223372036854775808) : 0 ≤ zig n ∧ zig n < 18446744073709551616 := by
  unfold zig; split <;> omega
theorem zag_bounds (u : Int) (h1 : 0 ≤ u) (h2 : u < 18446744073709551616) : -9223372036854775808 ≤ zag u ∧ zag u < 9223372036854775808 := by
  unfold zag; split <;> omega
theorem zag_zig (n : Int) : zag (zig n) = n := by
  unfold zig zag; split <;> split <;> omega
theorem zig_zag (u : Int) (h1 : 0 ≤ u) : zig (zag u) = u := by
  unfold zag; split <;> (unfold zig; split <;> omega)

theorem xor_ones (x : Nat) (hx : x < 18446744073709551616) : x ^^^ 18446744073709551615 = 18446744073709551615 - x := by
  have h := BitVec.toNat_not (x := BitVec.ofNat 64 x)
  rw [← BitVec.xor_allOnes, BitVec.toNat_xor, BitVec.toNat_allOnes, BitVec.toNat_ofNat] at h
  rw [show x % 2 ^ 64 = x from Nat.mod_eq_of_lt hx] at h
  simpa using h

theorem zig_bits (n : Int) (h1 : -9223372036854775808 ≤ n) (h2 : n < 9223372036854775808) :
    bits BinOp.xor IntKind.u64 (IntKind.u64.wrap (IntKind.u64.wrap n * 2)) (IntKind.u64.wrap (n / 9223372036854775808)) = zig n := by
  rw [IntKind.wrap_u64, IntKind.wrap_u64, IntKind.wrap_u64]
  unfold zig
  by_cases h : 0 ≤ n
  · rw [if_pos h]
    obtain ⟨k, rfl⟩ := Int.eq_ofNat_of_zero_le h
    rw [show ((k : Int) % 18446744073709551616 * 2) % 18446744073709551616 = ((2 * k : Nat) : Int) by omega,
      show ((k : Int) / 9223372036854775808) % 18446744073709551616 = ((0 : Nat) : Int) by omega, bits_xor_u64_nat _ _ (by omega) (by omega), Nat.xor_zero]
    omega
  · rw [if_neg h]
    obtain ⟨k, hk⟩ := Int.eq_ofNat_of_zero_le (a := 2 * n + 18446744073709551616) (by omega)
    rw [show (n % 18446744073709551616 * 2) % 18446744073709551616 = ((k : Nat) : Int) by omega,
      show (n / 9223372036854775808) % 18446744073709551616 = ((18446744073709551615 : Nat) : Int) by omega, bits_xor_u64_nat _ _ (by omega) (by omega), xor_ones _ (by omega)]
    omega

theorem wrap_i64_eq (n : Int) : IntKind.i64.wrap n = (n + 9223372036854775808) % 18446744073709551616 - 9223372036854775808 := by
  simp [IntKind.wrap, IntKind.bits, IntKind.signed]; split <;> omega

theorem xor_i64_zero (a : Nat) (ha : a < 9223372036854775808) : bits BinOp.xor IntKind.i64 (a : Int) 0 = a := by
  show IntKind.i64.wrap ((BitVec.ofInt 64 (a : Int) ^^^ BitVec.ofInt 64 (0 : Int)).toNat : Int) = _
  rw [BitVec.toNat_xor, BitVec.ofInt_natCast, BitVec.toNat_ofNat, show (BitVec.ofInt 64 0).toNat = 0 from by decide, Nat.xor_zero, wrap_i64_eq]
  omega
theorem xor_i64_ones (a : Nat) (ha : a < 9223372036854775808) : bits BinOp.xor IntKind.i64 (a : Int) (-1) = -1 - a := by
  show IntKind.i64.wrap ((BitVec.ofInt 64 (a : Int) ^^^ BitVec.ofInt 64 (-1 : Int)).toNat : Int) = _
  rw [BitVec.toNat_xor, BitVec.ofInt_natCast, BitVec.toNat_ofNat, show (BitVec.ofInt 64 (-1)).toNat = 18446744073709551615 from by decide, xor_ones _ (by omega), wrap_i64_eq]
  omega

theorem zag_bits (n : Int) (h1 : 0 ≤ n) (h2 : n < 18446744073709551616) :
    bits BinOp.xor IntKind.i64 (n / 2) (wrap64 (-wrap64 (bits BinOp.and IntKind.u64 n 1))) = zag n := by
  obtain ⟨k, rfl⟩ := Int.eq_ofNat_of_zero_le h1
  have e1 : bits BinOp.and IntKind.u64 (k : Int) 1 = ((k % 2 : Nat) : Int) := by
    have := u64_and_nat k 1 (by omega) (by omega)
    rw [nat_mask1] at this; exact this
  have e2 : ((k : Nat) : Int) / 2 = ((k / 2 : Nat) : Int) := by omega
  have e3 : wrap64 (((k % 2 : Nat)) : Int) = ((k % 2 : Nat) : Int) := by rw [wrap64_eq]; omega
  have e4 : wrap64 (-((k % 2 : Nat) : Int)) = -((k % 2 : Nat) : Int) := by rw [wrap64_eq]; omega
  rw [e1, e2, e3, e4]
  unfold zag
  by_cases h : k % 2 = 0
  · rw [if_pos (by omega), h]
    exact (xor_i64_zero (k / 2) (by omega)).trans (by omega)
  · rw [if_neg (by omega), show k % 2 = 1 by omega]
    exact (xor_i64_ones (k / 2) (by omega)).trans (by omega)

theorem two_pow_le (j m : Nat) (h : j ≤ m) : (2 : Int) ^ j ≤ 2 ^ m := by
  have := Nat.pow_le_pow_right (show 0 < 2 by omega) h
  have e : ∀ k : Nat, (2 : Int) ^ k = ((2 ^ k : Nat) : Int) := fun k => by simp
  rw [e, e]; omega
theorem two_pow_pos (j : Nat) : (0 : Int) < 2 ^ j := Int.pow_pos (by omega)

/-- the number of b bits that n is cut to -/
def low (n : Int) (b : Nat) : Int := (n + 2 ^ (b - 1)) % 2 ^ b - 2 ^ (b - 1)

theorem low_shift (n : Int) (b : Nat) (h1 : 1 ≤ b) (h2 : b ≤ 64) : wrap64 (n * 2 ^ (64 - b)) / 2 ^ (64 - b) = low n b := by
  have hp := two_pow_pos (64 - b)
  have e1 : (9223372036854775808 : Int) = 2 ^ (b - 1) * 2 ^ (64 - b) := by
    rw [← Int.pow_add, show b - 1 + (64 - b) = 63 by omega]; rfl
  have e2 : (18446744073709551616 : Int) = 2 ^ b * 2 ^ (64 - b) := by
    rw [← Int.pow_add, show b + (64 - b) = 64 by omega]; rfl
  unfold low
  rw [wrap64_eq]
  generalize (2 : Int) ^ (64 - b) = q at *
  generalize (2 : Int) ^ (b - 1) = h at *
  generalize (2 : Int) ^ b = p at *
  rw [e2, e1, ← Int.add_mul, Int.mul_comm (n + h) q, Int.mul_comm p q, Int.mul_emod_mul_of_pos _ _ hp, Int.mul_comm h q, ← Int.mul_sub, Int.mul_ediv_cancel_left _ (by omega)]

theorem low_bounds (n : Int) (b : Nat) (h1 : 1 ≤ b) : -2 ^ (b - 1) ≤ low n b ∧ low n b < 2 ^ (b - 1) := by
  have e : (2 : Int) ^ b = 2 * 2 ^ (b - 1) := by
    conv => lhs; rw [show b = (b - 1) + 1 by omega, Int.pow_succ]
    omega
  have hp := two_pow_pos (b - 1)
  unfold low
  rw [e]
  generalize (2 : Int) ^ (b - 1) = h at *
  have := Int.emod_nonneg (n + h) (b := 2 * h) (by omega)
  have := Int.emod_lt_of_pos (n + h) (b := 2 * h) (by omega)
  omega

theorem low_same (n : Int) (b : Nat) (h1 : 1 ≤ b) (h2 : -2 ^ (b - 1) ≤ n) (h3 : n < 2 ^ (b - 1)) : low n b = n := by
  have e : (2 : Int) ^ b = 2 * 2 ^ (b - 1) := by
    conv => lhs; rw [show b = (b - 1) + 1 by omega, Int.pow_succ]
    omega
  have hp := two_pow_pos (b - 1)
  unfold low
  rw [e]
  generalize (2 : Int) ^ (b - 1) = h at *
  rw [Int.emod_eq_of_lt (by omega) (by omega)]; omega

theorem low_eq_iff (n : Int) (b : Nat) (h1 : 1 ≤ b) : low n b = n ↔ (-2 ^ (b - 1) ≤ n ∧ n < 2 ^ (b - 1)) := by
  constructor
  · intro h; have := low_bounds n b h1; omega
  · intro h; exact low_same n b h1 h.1 h.2

theorem low_low (n : Int) (b : Nat) (h1 : 1 ≤ b) : low (low n b) b = low n b := by
  have := low_bounds n b h1
  exact low_same _ b h1 this.1 this.2

/-- the remainder of division towards nought, corrected once, is the number that n is cut to -/
theorem low_tmod (n : Int) (b : Nat) (h1 : 1 ≤ b) :
    (2 ^ (b - 1) ≤ n.tmod (2 * 2 ^ (b - 1)) → low n b = n.tmod (2 * 2 ^ (b - 1)) - 2 * 2 ^ (b - 1)) ∧
    (n.tmod (2 * 2 ^ (b - 1)) < -2 ^ (b - 1) → low n b = n.tmod (2 * 2 ^ (b - 1)) + 2 * 2 ^ (b - 1)) ∧
    (n.tmod (2 * 2 ^ (b - 1)) < 2 ^ (b - 1) → -2 ^ (b - 1) ≤ n.tmod (2 * 2 ^ (b - 1)) → low n b = n.tmod (2 * 2 ^ (b - 1))) := by
  have e : (2 : Int) ^ b = 2 * 2 ^ (b - 1) := by
    conv => lhs; rw [show b = (b - 1) + 1 by omega, Int.pow_succ]
    omega
  have hp := two_pow_pos (b - 1)
  unfold low
  rw [e]
  generalize (2 : Int) ^ (b - 1) = h at *
  have ht := Int.mul_tdiv_add_tmod n (2 * h)
  have hl : n.tmod (2 * h) < 2 * h := Int.tmod_lt_of_pos n (by omega)
  have hg : -(2 * h) < n.tmod (2 * h) := by
    have := Int.tmod_lt_of_pos (-n) (b := 2 * h) (by omega)
    rw [Int.neg_tmod] at this; omega
  generalize n.tmod (2 * h) = r at *
  generalize n.tdiv (2 * h) = t at *
  have key : ∀ c : Int, (n + h) % (2 * h) = (r + h + c * (2 * h)) % (2 * h) := by
    intro c
    rw [← ht, show 2 * h * t + r + h = (r + h + c * (2 * h)) + (t - c) * (2 * h) by rw [Int.sub_mul, Int.mul_comm t (2 * h)]; omega, Int.add_mul_emod_self_right]
  refine ⟨fun h1 => ?_, fun h1 => ?_, fun h1 h2 => ?_⟩
  · rw [key (-1), Int.emod_eq_of_lt (by omega) (by omega)]; omega
  · rw [key 1, Int.emod_eq_of_lt (by omega) (by omega)]; omega
  · rw [key 0, Int.emod_eq_of_lt (by omega) (by omega)]; omega
end Go.Proofs.YtebldfnocpcddaaGreatDoor

/-
  Contracts of layer word's functions of numbers alone, and of the document's own: what each returns, and that it leaves the world as it is.
-/
namespace Go.Proofs.YtebldfnocpcddaaGreatDoor
open Go.RowKit

theorem ret_int {k : IntKind} {a b : Int} (h : a = b) : Ending.returned (.int k a) = .returned (.int k b) := by rw [h]

set_option maxHeartbeats 400000 in
theorem isWidth_yes (n : Int) (w : World) (h1 : 1 ≤ n) (h2 : n ≤ 64) :
    Calls Tryz.prog 137 #[.int .i64 n] w fun e w' => e = .returned (.bool true) ∧ w = w' := by
  go_enter Tryz.func137, Tryz.ntmps137
  go_wp2
  go_ret
  exact ⟨rfl, rfl⟩
set_option maxHeartbeats 400000 in
theorem isWidth_no (n : Int) (w : World) (h1 : n < 1 ∨ 64 < n) :
    Calls Tryz.prog 137 #[.int .i64 n] w fun e w' => e = .returned (.bool false) ∧ w = w' := by
  rcases h1 with h | h
  · have hd : decide (1 ≤ n) = false := by simp; omega
    go_enter Tryz.func137, Tryz.ntmps137
    go_wp2
    go_ret
    exact ⟨rfl, rfl⟩
  · have hd : decide (1 ≤ n) = true := by simp; omega
    have hd2 : decide (n ≤ 64) = false := by simp; omega
    go_enter Tryz.func137, Tryz.ntmps137
    go_wp2
    go_ret
    exact ⟨rfl, rfl⟩

set_option maxHeartbeats 400000 in
theorem low_any (n : Int) (b : Nat) (w : World) (h1 : 1 ≤ b) (h2 : b ≤ 64) :
    Calls Tryz.prog 138 #[.int .i64 n, .int .i64 b] w fun e w' => e = .returned (.int .i64 (low n b)) ∧ w = w' := by
  have e0 := Lib.hid (low_shift n b h1 h2)
  go_enter Tryz.func138, Tryz.ntmps138
  go_wp2_with (go_at_call 137; refine (isWidth_yes _ _ (by omega) (by omega)).mono ?_; rintro e w' ⟨rfl, rfl⟩)
  go_ret
  exact ⟨ret_int e0.out, rfl⟩
set_option maxHeartbeats 400000 in
theorem low_no (n b : Int) (w : World) (h1 : b < 1 ∨ 64 < b) :
    Calls Tryz.prog 138 #[.int .i64 n, .int .i64 b] w fun e w' => e = .returned (.int .i64 0) ∧ w = w' := by
  go_enter Tryz.func138, Tryz.ntmps138
  go_wp2_with (go_at_call 137; refine (isWidth_no _ _ h1).mono ?_; rintro e w' ⟨rfl, rfl⟩)
  go_ret
  exact ⟨rfl, rfl⟩

/-- does n fit b bits? -/
def fitsB (n : Int) (b : Nat) : Bool := low n b == n

set_option maxHeartbeats 400000 in
theorem fits_any (n : Int) (b : Nat) (w : World) (h1 : 1 ≤ b) (h2 : b ≤ 64) :
    Calls Tryz.prog 115 #[.int .i64 n, .int .i64 b] w fun e w' => e = .returned (.bool (fitsB n b)) ∧ w = w' := by
  go_enter Tryz.func115, Tryz.ntmps115
  go_wp2_with (first | (go_at_call 137; refine (isWidth_yes _ _ (by omega) (by omega)).mono ?_; rintro e w' ⟨rfl, rfl⟩) | (go_at_call 138; refine (low_any _ _ _ h1 h2).mono ?_; rintro e w' ⟨rfl, rfl⟩))
  go_ret
  exact ⟨rfl, rfl⟩
set_option maxHeartbeats 400000 in
theorem fits_no (n b : Int) (w : World) (h1 : b < 1 ∨ 64 < b) :
    Calls Tryz.prog 115 #[.int .i64 n, .int .i64 b] w fun e w' => e = .returned (.bool false) ∧ w = w' := by
  go_enter Tryz.func115, Tryz.ntmps115
  go_wp2_with (go_at_call 137; refine (isWidth_no _ _ h1).mono ?_; rintro e w' ⟨rfl, rfl⟩)
  go_ret
  exact ⟨rfl, rfl⟩

set_option maxHeartbeats 400000 in
theorem half_any (b : Nat) (w : World) (h1 : 1 ≤ b) (h2 : b ≤ 63) :
    Calls Tryz.prog 75 #[.int .i64 b] w fun e w' => e = .returned (.int .i64 (2 ^ (b - 1))) ∧ w = w' := by
  obtain ⟨k, rfl⟩ : ∃ k : Nat, b = k + 1 := ⟨b - 1, by omega⟩
  rw [Nat.add_sub_cancel]
  go_enter Tryz.func75, Tryz.ntmps75
  go_wp2
  go_loop [3, 4] (fun n i => ∃ j : Nat, j ≤ k ∧ i = .int .i64 (j + 1 : Nat) ∧ n = .int .i64 (2 ^ j)) (fun _ i => k + 1 - (intOf i).toNat)
  case atStart => exact ⟨0, by omega, rfl, rfl⟩
  case round =>
    obtain ⟨j, hj, rfl, rfl⟩ := hrel
    by_cases hlt : j < k
    · have hp : (2:Int) ^ j ≤ 2305843009213693952 := two_pow_le j 61 (by omega)
      have hp0 := two_pow_pos j
      have hs : (2 : Int) ^ (j + 1) = 2 * 2 ^ j := by rw [Int.pow_succ]; omega
      generalize hq : (2:Int) ^ j = q at *
      have Hq := Lib.hid hq; clear hq
      have Hs := Lib.hid hs; clear hs
      go_wp2
      go_round
      case rel => exact ⟨j + 1, by omega, by go_num, by rw [Hs.out]⟩
      case measure => simp [intOf]; omega
    · go_wp2
      go_ret
      obtain rfl : j = k := by omega
      exact ⟨rfl, rfl⟩

set_option maxHeartbeats 400000 in
theorem rfits_no (n b : Int) (w : World) (h1 : b < 1 ∨ 64 < b) :
    Calls Tryz.prog 47 #[.int .i64 n, .int .i64 b] w fun e w' => e = .returned (.bool false) ∧ w = w' := by
  rcases h1 with h | h
  · have hd : decide (b < 1) = true := by simp; omega
    go_enter Tryz.func47, Tryz.ntmps47
    go_wp2
    go_ret
    exact ⟨rfl, rfl⟩
  · have hd : decide (b < 1) = false := by simp; omega
    have hd2 : decide (64 < b) = true := by simp; omega
    go_enter Tryz.func47, Tryz.ntmps47
    go_wp2
    go_ret
    exact ⟨rfl, rfl⟩

theorem fitsB_64 (n : Int) (h1 : -9223372036854775808 ≤ n) (h2 : n < 9223372036854775808) : fitsB n 64 = true := by
  unfold fitsB; rw [low_same n 64 (by omega) (by simpa using h1) (by simpa using h2)]; simp

theorem fitsB_eq (n : Int) (b : Nat) (h : 1 ≤ b) : fitsB n b = (decide (-2 ^ (b - 1) ≤ n) && decide (n < 2 ^ (b - 1))) := by
  unfold fitsB
  rw [Bool.eq_iff_iff]
  simp [low_eq_iff n b h]

set_option maxHeartbeats 400000 in
theorem rfits_any (n : Int) (b : Nat) (w : World) (h1 : 1 ≤ b) (h2 : b ≤ 64) (h3 : -9223372036854775808 ≤ n) (h4 : n < 9223372036854775808) :
    Calls Tryz.prog 47 #[.int .i64 n, .int .i64 b] w fun e w' => e = .returned (.bool (fitsB n b)) ∧ w = w' := by
  have hd : decide ((b : Int) < 1) = false := by simp; omega
  have hd2 : decide (64 < (b : Int)) = false := by simp; omega
  by_cases hb : b = 64
  · subst hb
    have H := Lib.hid (fitsB_64 n h3 h4)
    go_enter Tryz.func47, Tryz.ntmps47
    go_wp2
    go_ret
    exact ⟨by rw [H.out]; rfl, rfl⟩
  · have hne : ((b : Int) == 64) = false := by simp; omega
    have hp : (2:Int) ^ (b - 1) ≤ 4611686018427387904 := two_pow_le (b - 1) 62 (by omega)
    have hp0 := two_pow_pos (b - 1)
    have H := Lib.hid (fitsB_eq n b h1)
    have hh := fun w => half_any b w h1 (by omega)
    generalize hq : (2:Int) ^ (b - 1) = q at *
    have Hh := Lib.hid hh; clear hh
    have Hq := Lib.hid hq; clear hq
    by_cases hc : -q ≤ n
    · have hc' : decide (-q ≤ n) = true := by simp; omega
      go_enter Tryz.func47, Tryz.ntmps47
      go_wp2_with (go_at_call 75; refine (Hh.out _).mono ?_; rintro e w' ⟨rfl, rfl⟩)
      go_ret
      exact ⟨by rw [H.out, hc']; rfl, rfl⟩
    · have hc' : decide (-q ≤ n) = false := by simp; omega
      go_enter Tryz.func47, Tryz.ntmps47
      go_wp2_with (go_at_call 75; refine (Hh.out _).mono ?_; rintro e w' ⟨rfl, rfl⟩)
      go_ret
      exact ⟨by rw [H.out, hc']; rfl, rfl⟩

theorem low_63 (n : Int) (h1 : -9223372036854775808 ≤ n) (h2 : n < 9223372036854775808) :
    (4611686018427387904 ≤ n → low n 63 = n - 4611686018427387904 - 4611686018427387904) ∧ (n < -4611686018427387904 → low n 63 = n + 4611686018427387904 + 4611686018427387904) ∧
    (-4611686018427387904 ≤ n → n < 4611686018427387904 → low n 63 = n) := by
  unfold low
  simp only [show (63 : Nat) - 1 = 62 from rfl, show (2 : Int) ^ 62 = 4611686018427387904 from rfl, show (2 : Int) ^ 63 = 9223372036854775808 from rfl]
  omega

theorem half_63 (w : World) : Calls Tryz.prog 75 #[.int .i64 63] w fun e w' => e = .returned (.int .i64 4611686018427387904) ∧ w = w' :=
  half_any 63 w (by omega) (by omega)

end Go.Proofs.YtebldfnocpcddaaGreatDoor

/-
  Rows of bytes and of numbers that a call makes by itself: one element appended, a row made into a string; strings as lists of bytes.
-/
namespace Go.Proofs.YtebldfnocpcddaaGreatDoor
open Go.RowKit

theorem info8 : (Tryz.prog.info? 5).map (fun i => (i.zero, i.size, i.bytes)) = some (some (.int .u8 0), 1, 1) := by kernel_rfl

/-- bytes as cells -/
def B8 (l : List UInt8) : List Value := l.map fun c => Value.int .u8 (c.toNat : Int)
theorem B8_append (a b : List UInt8) : B8 (a ++ b) = B8 a ++ B8 b := List.map_append
theorem B8_length (a : List UInt8) : (B8 a).length = a.length := List.length_map _

/-- the slice value v is a row of the call's own, from block base on, and holds the bytes l -/
def OwnB (w : World) (base : Nat) (v : Value) (l : List UInt8) : Prop := w.ownsRow base 5 1 v l.length (B8 l)

theorem OwnB.nil (w : World) (base : Nat) : OwnB w base (.slice none 0 0) [] := World.ownsRow_nil _ _ _ _
theorem OwnB.alloc {w : World} {base : Nat} {v : Value} {l : List UInt8} (h : OwnB w base v l) (o : Obj) : OwnB (w.alloc o) base v l := World.ownsRow.alloc h o
theorem OwnB.form {w : World} {base : Nat} {v : Value} {l : List UInt8} (h : OwnB w base v l) : (v = .slice none 0 0 ∧ l = []) ∨ ∃ g cap, v = .slice (some ⟨g, 0, none⟩) l.length cap ∧ base ≤ g := by
  rcases h.2 with ⟨h1, h2⟩ | ⟨g, cap, cur, h1, h2, _⟩
  · exact .inl ⟨h1, List.eq_nil_of_length_eq_zero h2⟩
  · exact .inr ⟨g, cap, h1, h2⟩

theorem wpList_append_byte {w : World} {ops : Array Oper} {rest : List Oper} {o : Oper} {a : Act} {Q : Exit → Act → World → Prop} (hgd : o.guard = none) (s x : Operand)
    (ho : o.op = .call { callee := .builtin .append, args := #[s, x], argTypes := #[47, 47] })
    (base : Nat) (v : Value) (l : List UInt8) (c : UInt8) (z : Int)
    (hown : OwnB w base v l) (hs : a.eval s = v) (hx : a.eval x = .slice (some ⟨w.heap.size, 0, none⟩) 1 1) (hz : z = (c.toNat : Int)) (hlen : l.length < 1099511627776) (hbase : base ≤ w.heap.size)
    (h : ∀ v' w', OwnB w' base v' (l ++ [c]) → Below base w w' → wpList Tryz.prog ops Q rest (a.put o.dst v') w') :
    wpList Tryz.prog ops Q (o :: rest) a (w.alloc (.cells #[.int .u8 z] 5)) := by
  subst hz
  obtain ⟨i0, hi, hz0, hz1, hz2⟩ := info_parts info8
  refine wpList_append_own _ hgd s x 47 ho base 5 i0 (.int .u8 0) 1 1 Tryz.underlying47 hi hz0 hz1 hz2 rfl (by decide) v l.length (B8 l) hs (World.ownsRow.alloc hown _)
    ⟨w.heap.size, 0, none⟩ 1 1 [.int .u8 (c.toNat : Int)] hx rfl (fun j u hj => ?_) (fun u hu => ?_) (by unfold maxLen; omega) (by omega) (by simp; omega) ?_
  · match j, hj with
    | 0, hj => simp at hj; subst hj; simp [Addr.add]
  · simp at hu; subst hu; rfl
  · intro v' w' h1 h2 _
    refine h v' w' ?_ (((Below.refl base w).alloc hbase _).grown h2 (by simp; omega) (fun k hk => ?_))
    · unfold OwnB
      rw [B8_append, List.length_append]
      exact h1
    · exact ((World.ownsRow.lt hown) k hk).1

/-- the same, as one step of a region that draws -/
theorem step_append_byte {w : World} {ops : Array Oper} {o : Oper} {a : Act} {K : Act → World → Prop} {Q : Exit → Act → World → Prop} {E : Prop} (hgd : o.guard = none) (s x : Operand)
    (ho : o.op = .call { callee := .builtin .append, args := #[s, x], argTypes := #[47, 47] })
    (base : Nat) (v : Value) (l : List UInt8) (c : UInt8) (b : Nat) (z : Int)
    (hown : OwnB w base v l) (hs : a.eval s = v) (hx : a.eval x = .slice (some ⟨b, 0, none⟩) 1 1) (hz : z = (c.toNat : Int)) (hcell : w.cell? ⟨b, 0, none⟩ = some (.int .u8 z)) (hlen : l.length < 1099511627776) (hbase : base ≤ w.heap.size)
    (h : ∀ v' w', OwnB w' base v' (l ++ [c]) → Below base w w' → K (a.put o.dst v') w') :
    if Region.wanted o (yielded ops a.tmps) = true then Oper.wp Tryz.prog o a w K Q else E := by
  subst hz
  have hw : Region.wanted o (yielded ops a.tmps) = true := by simp [Region.wanted, hgd]
  rw [if_pos hw]
  obtain ⟨i0, hi, hz0, hz1, hz2⟩ := info_parts info8
  obtain ⟨v', w', hrun, h1, h2, _⟩ := run_append_own (P := Tryz.prog) w base 47 o.type 5 i0 (.int .u8 0) 1 1 Tryz.underlying47 hi hz0 hz1 hz2 rfl (by decide) v l.length (B8 l) hown ⟨b, 0, none⟩ 1 1 [.int .u8 (c.toNat : Int)] rfl
    (fun j u hj => by
      match j, hj with
      | 0, hj => simp at hj; subst hj; simpa [Addr.add] using hcell)
    (fun u hu => by simp at hu; subst hu; rfl) (by unfold maxLen; omega) (by omega) hbase
  unfold Oper.wp
  simp [execOp, ho, resolve, invoke, builtin, hs, hx, hrun, Result.andThen]
  refine h v' w' ?_ ((Below.refl base w).grown h2 hbase (fun k hk => ((World.ownsRow.lt hown) k hk).1))
  unfold OwnB
  rw [B8_append, List.length_append]
  exact h1

/-- new bytes, all nought -/
theorem wpList_make_bytes {w : World} {ops : Array Oper} {rest : List Oper} {o : Oper} {a : Act} {Q : Exit → Act → World → Prop} (hgd : o.guard = none) (x y : Operand) (ho : o.op = Op.makeSlice 47 x y)
    (base n : Nat) (kl kc : IntKind) (L C : Int) (hx : a.eval x = .int kl L) (hy : a.eval y = .int kc C) (hL : L = (n : Int)) (hC : C = (n : Int)) (hn : n ≤ 1099511627776) (hbase : base ≤ w.heap.size)
    (h : ∀ w', OwnB w' base (.slice (some ⟨w.heap.size, 0, none⟩) n n) (List.replicate n 0) → Below base w w' → wpList Tryz.prog ops Q rest (a.put o.dst (.slice (some ⟨w.heap.size, 0, none⟩) n n)) w') :
    wpList Tryz.prog ops Q (o :: rest) a w := by
  obtain ⟨i0, hi, hz0, hz1, hz2⟩ := info_parts info8
  refine wpList_make_full w hgd x y 47 ho base 5 i0 (.int .u8 0) 1 Tryz.underlying47 hi hz0 hz1 kl kc L C n hx hy hL hC (by rw [hz2]; omega) (by unfold maxLen; omega) hbase ?_
  intro w' h1 h2
  refine h w' ?_ ((Below.refl base w).grown h2 hbase (fun k hk => by cases hk))
  unfold OwnB
  rw [List.length_replicate]
  have e : (madeCells (Value.int .u8 0).cells (n * 1)).toList = B8 (List.replicate n 0) := by
    show (madeCells #[Value.int .u8 0] (n * 1)).toList = _
    rw [toList_madeCells_one, Nat.mul_one]; simp [B8]
  rw [← e]; exact h1

/-- one byte of a row of the call's own is written -/
theorem OwnB.set {w : World} {base g n cap : Nat} {l : List UInt8} (h : OwnB w base (.slice (some ⟨g, 0, none⟩) n cap) l) (hn : l.length = n) (j : Nat) (c : UInt8) :
    OwnB (w.setCell ⟨g, j, none⟩ (.int .u8 (c.toNat : Int))) base (.slice (some ⟨g, 0, none⟩) n cap) (l.set j c) := by
  subst hn
  have := (World.ownsRow.stored h j (.int .u8 (c.toNat : Int))).1
  unfold OwnB
  rw [List.length_set]
  have e : B8 (l.set j c) = (B8 l).set j (.int .u8 (c.toNat : Int)) := by simp [B8, List.map_set]
  rw [e]; exact this
theorem OwnB.at {w : World} {base g n cap : Nat} {l : List UInt8} (h : OwnB w base (.slice (some ⟨g, 0, none⟩) n cap) l) (j : Nat) (c : UInt8) (hj : l[j]? = some c) : w.cell? ⟨g, j, none⟩ = some (.int .u8 (c.toNat : Int)) := by
  have := World.ownsRow.cells h (g := g) rfl j (.int .u8 (c.toNat : Int)) (by simp [B8, hj])
  simpa [Addr.add_lit] using this
theorem OwnB.thawed {w : World} {base g n cap : Nat} {l : List UInt8} (h : OwnB w base (.slice (some ⟨g, 0, none⟩) n cap) l) (hn : l.length = n) (j : Nat) : w.frozen? ⟨g, j, none⟩ = false := by
  subst hn; exact World.ownsRow.frozenAt h j

theorem info64 : (Tryz.prog.info? 133).map (fun i => (i.zero, i.size, i.bytes)) = some (some (.int .u64 0), 1, 8) := by kernel_rfl
/-- numbers as cells -/
def N64 (l : List Nat) : List Value := l.map fun n : Nat => Value.int .u64 (n : Int)
theorem N64_append (a b : List Nat) : N64 (a ++ b) = N64 a ++ N64 b := List.map_append
/-- the slice value v is a row of the call's own, from block base on, and holds the numbers l -/
def OwnN (w : World) (base : Nat) (v : Value) (l : List Nat) : Prop := w.ownsRow base 133 1 v l.length (N64 l)
theorem OwnN.nil (w : World) (base : Nat) : OwnN w base (.slice none 0 0) [] := World.ownsRow_nil _ _ _ _

/-- a row of bytes made into a string -/
theorem run_string_own {w : World} {base : Nat} {v : Value} {l : List UInt8} (h : OwnB w base v l) (w' : World) (hw : ∀ p : Addr, w'.cell? p = w.cell? p) :
    (convert 47 9 v).run Tryz.prog w' = .ok (.string ⟨l.toArray⟩) w' := by
  rcases h.2 with ⟨rfl, hl⟩ | ⟨g, cap, cur, rfl, hb, hg, hn, hm, hs, ht⟩
  · obtain rfl : l = [] := List.eq_nil_of_length_eq_zero hl
    rw [run_convert_bytes_string w' 47 9 5 none 0 0 Tryz.underlying47 Tryz.underlying5 Tryz.underlying9]
    simp [Conv.bytesToString]; rfl
  · refine run_convert_bytes_back w' 47 9 5 ⟨g, 0, none⟩ cap l Tryz.underlying47 Tryz.underlying5 Tryz.underlying9 fun j hj => ?_
    rw [hw]
    refine World.ownsRow.cells h (g := g) rfl j _ ?_
    simp [B8, hj]
end Go.Proofs.YtebldfnocpcddaaGreatDoor

/-
  Numbers as bytes, plainly: digits to the base 128, as few as may be; four and eight bytes. It speaks of no program.
-/
namespace Go.Proofs.YtebldfnocpcddaaGreatDoor
open Go.RowKit

/-- the byte of a number's lowest digit where digits follow -/
def hi (n : Nat) : UInt8 := UInt8.ofNat (n % 128 + 128)
def varintF : Nat → Nat → List UInt8
  | 0, n => [UInt8.ofNat n]
  | f + 1, n => if n < 128 then [UInt8.ofNat n] else hi n :: varintF f (n / 128)
def varint (n : Nat) : List UInt8 := varintF n n

theorem varintF_eq : ∀ f g n : Nat, n ≤ f → n ≤ g → varintF f n = varintF g n
  | 0, 0, _, _, _ => rfl
  | 0, g + 1, n, h, _ => by rw [varintF, varintF, if_pos (by omega)]
  | f + 1, 0, n, _, h => by rw [varintF, varintF, if_pos (by omega)]
  | f + 1, g + 1, n, h1, h2 => by
    rw [varintF, varintF]
    by_cases h : n < 128
    · rw [if_pos h, if_pos h]
    · rw [if_neg h, if_neg h, varintF_eq f g (n / 128) (by omega) (by omega)]

theorem varint_small (n : Nat) (h : n < 128) : varint n = [UInt8.ofNat n] := by
  unfold varint
  cases n with
  | zero => rfl
  | succ n => rw [varintF, if_pos h]
theorem varint_step (n : Nat) (h : 128 ≤ n) : varint n = hi n :: varint (n / 128) := by
  unfold varint
  rw [varintF_eq n (n - 1 + 1) n (by omega) (by omega), varintF, if_neg (by omega), varintF_eq (n - 1) (n / 128) (n / 128) (by omega) (by omega)]

theorem varint_len (k : Nat) : ∀ n : Nat, n < 128 ^ (k + 1) → (varint n).length ≤ k + 1 := by
  induction k with
  | zero => intro n h; rw [varint_small n (by simpa using h)]; simp
  | succ k ih =>
    intro n h
    by_cases hn : n < 128
    · rw [varint_small n hn]; simp
    · rw [varint_step n (by omega), List.length_cons]
      have : n / 128 < 128 ^ (k + 1) := by
        rw [Nat.div_lt_iff_lt_mul (by omega)]; rw [Nat.pow_succ] at h; exact h
      have := ih _ this
      omega
theorem varint_ten (n : Nat) (h : n < 18446744073709551616) : (varint n).length ≤ 10 :=
  varint_len 9 n (Nat.lt_of_lt_of_le h (by decide))
theorem varint_pos (n : Nat) : 0 < (varint n).length := by
  by_cases h : n < 128
  · rw [varint_small n h]; simp
  · rw [varint_step n (by omega)]; simp

theorem or128 : ∀ m : Nat, m < 256 → m ||| 128 = m % 128 + 128 := by decide +kernel
theorem byte_or (m : Nat) : bits BinOp.or IntKind.u8 ((m : Int) % 256) 128 = ((hi m).toNat : Int) := by
  unfold hi
  have := u8_or_nat (m % 256) 128 (by omega) (by omega)
  rw [or128 _ (by omega)] at this
  rw [show ((m : Int) % 256) = ((m % 256 : Nat) : Int) by omega]
  rw [show ((128 : Int)) = ((128 : Nat) : Int) from rfl, this, UInt8.toNat_ofNat']
  omega
theorem hi_nat (n : Nat) : (hi n).toNat = n % 128 + 128 := by unfold hi; rw [UInt8.toNat_ofNat']; omega
theorem byte_of (m : Nat) : ((m : Int) % 256) = ((UInt8.ofNat m).toNat : Int) := by
  rw [UInt8.toNat_ofNat']; omega
theorem byte_small (m : Nat) (h : m < 256) : (m : Int) = ((UInt8.ofNat m).toNat : Int) := by
  rw [UInt8.toNat_ofNat']; omega

/-- the short bytes of several numbers -/
def shorts (l : List Nat) : List UInt8 := l.flatMap varint
theorem shorts_nil : shorts [] = [] := rfl
theorem shorts_snoc (l : List Nat) (n : Nat) : shorts (l ++ [n]) = shorts l ++ varint n := by simp [shorts]
theorem shorts_len (l : List Nat) (h : ∀ n ∈ l, n < 18446744073709551616) : (shorts l).length ≤ 10 * l.length := by
  induction l with
  | nil => simp [shorts]
  | cons a l ih =>
    have h1 := varint_ten a (h a (by simp))
    have h2 := ih fun n hn => h n (by simp [hn])
    simp only [shorts, List.flatMap_cons, List.length_append, List.length_cons] at h2 ⊢
    omega
end Go.Proofs.YtebldfnocpcddaaGreatDoor

/-
  The number that bytes begin with, and all numbers that they are, plainly. It speaks of no program.
-/
namespace Go.Proofs.YtebldfnocpcddaaGreatDoor
open Go.RowKit

/-- how many bytes of at least 128 stand at the beginning -/
def lead : List UInt8 → Nat
  | [] => 0
  | c :: r => if c.toNat < 128 then 0 else lead r + 1
/-- the number of the digits, the lowest first -/
def digs : List UInt8 → Nat
  | [] => 0
  | c :: r => c.toNat % 128 + 128 * digs r
/-- may the byte c end a number at place m? -/
def lastOk (m : Nat) (c : Nat) : Bool := !((decide (0 < m) && c == 0) || (m == 9 && decide (1 < c)))
/-- the number, its size, the error -/
def long (l : List UInt8) : Nat × Nat × Nat :=
  if lead l < l.length ∧ lead l < 10 then
    if lastOk (lead l) (l.getD (lead l) 0).toNat then (digs (l.take (lead l + 1)), lead l + 1, 0) else (0, 0, 5)
  else if l.length < 10 then (0, 0, 4) else (0, 0, 5)

theorem lead_le : ∀ l : List UInt8, lead l ≤ l.length
  | [] => by simp [lead]
  | c :: r => by
    have := lead_le r
    unfold lead; split <;> simp <;> omega
theorem lead_eq : ∀ (l : List UInt8) (k : Nat) (hk : k < l.length), (∀ j (hj : j < k), 128 ≤ (l[j]'(by omega)).toNat) → l[k].toNat < 128 → lead l = k
  | [], k, hk, _, _ => by simp at hk
  | c :: r, 0, hk, _, h => by simp at h; simp [lead, h]
  | c :: r, k + 1, hk, h1, h => by
    have hc := h1 0 (by omega)
    simp at hc
    unfold lead
    rw [if_neg (by omega), lead_eq r k (by simpa using hk) (fun j hj => by have := h1 (j + 1) (by omega); simpa using this) (by simpa using h)]
theorem lead_ge : ∀ (l : List UInt8) (k : Nat) (hk : k ≤ l.length), (∀ j (hj : j < k), 128 ≤ (l[j]'(by omega)).toNat) → k ≤ lead l
  | _, 0, _, _ => by omega
  | [], k + 1, hk, _ => by simp at hk
  | c :: r, k + 1, hk, h1 => by
    have hc := h1 0 (by omega)
    simp at hc
    unfold lead
    rw [if_neg (by omega)]
    have := lead_ge r k (by simpa using hk) (fun j hj => by have := h1 (j + 1) (by omega); simpa using this)
    omega

theorem digs_snoc : ∀ (l : List UInt8) (c : UInt8), digs (l ++ [c]) = digs l + c.toNat % 128 * 128 ^ l.length
  | [], c => by simp [digs]
  | d :: l, c => by
    simp only [List.cons_append, digs, digs_snoc l c, List.length_cons, Nat.pow_succ, Nat.mul_add]
    rw [Nat.add_assoc, ← Nat.mul_assoc, Nat.mul_comm 128 (c.toNat % 128), Nat.mul_assoc, Nat.mul_comm 128 (128 ^ l.length)]
theorem digs_lt : ∀ l : List UInt8, digs l < 128 ^ l.length
  | [] => by simp [digs]
  | c :: l => by
    have := digs_lt l
    simp only [digs, List.length_cons, Nat.pow_succ]
    omega

/-- where the loop finds the last byte -/
theorem long_hit (l : List UInt8) (k : Nat) (hk : k < l.length) (h10 : k < 10) (h1 : ∀ j (hj : j < k), 128 ≤ (l[j]'(by omega)).toNat) (h2 : l[k].toNat < 128) :
    long l = if lastOk k l[k].toNat then (digs (l.take (k + 1)), k + 1, 0) else (0, 0, 5) := by
  have e := lead_eq l k hk h1 h2
  unfold long
  rw [e, if_pos ⟨hk, h10⟩, List.getD_eq_getElem?_getD, List.getElem?_eq_getElem hk, Option.getD_some]
/-- where it finds none -/
theorem long_miss (l : List UInt8) (k : Nat) (hk : k ≤ l.length) (h1 : ∀ j (hj : j < k), 128 ≤ (l[j]'(by omega)).toNat) (h2 : k = l.length ∨ k = 10) :
    long l = if l.length < 10 then (0, 0, 4) else (0, 0, 5) := by
  have := lead_ge l k hk h1
  have := lead_le l
  unfold long
  rw [if_neg (by omega)]

theorem long_size (l : List UInt8) : (long l).2.1 ≤ l.length := by
  unfold long; split
  · split <;> simp; omega
  · split <;> simp
theorem long_pos (l : List UInt8) (h : (long l).2.2 = 0) : 0 < (long l).2.1 := by
  unfold long at h ⊢; split at h
  · split at h
    · rename_i h1 h2; rw [if_pos h1, if_pos h2]; simp
    · simp at h
  · split at h <;> simp at h
theorem long_ten (l : List UInt8) : (long l).2.1 ≤ 10 := by
  unfold long; split
  · split <;> simp; omega
  · split <;> simp
theorem long_lt (l : List UInt8) : (long l).1 < 18446744073709551616 := by
  unfold long; split
  · rename_i h
    split
    · rename_i h2
      show digs _ < _
      have hd := digs_lt (l.take (lead l + 1))
      have e : (l.take (lead l + 1)).length = lead l + 1 := by simp; omega
      by_cases h9 : lead l = 9
      · have h10 : l.take (lead l + 1) = l.take (lead l) ++ [l[lead l]] := List.take_succ_eq_append_getElem h.1
        rw [h10, digs_snoc]
        have hd' := digs_lt (l.take (lead l))
        have e' : (l.take (lead l)).length = 9 := by simp; omega
        rw [e'] at hd' ⊢
        have hc : l[lead l].toNat ≤ 1 := by
          rw [List.getD_eq_getElem?_getD, List.getElem?_eq_getElem h.1, Option.getD_some] at h2
          simp [lastOk, h9] at h2
          simp only [h9]; omega
        have : l[lead l].toNat % 128 * 128 ^ 9 ≤ 1 * 128 ^ 9 := Nat.mul_le_mul_right _ (by omega)
        simp at this hd'
        omega
      · rw [e] at hd
        have : (128 : Nat) ^ (lead l + 1) ≤ 128 ^ 9 := Nat.pow_le_pow_right (by omega) (by omega)
        simp at this
        omega
    · simp
  · split <;> simp

/-- a string's bytes -/
def bs (s : ByteArray) : List UInt8 := s.data.toList
theorem bs_mk (l : List UInt8) : bs ⟨l.toArray⟩ = l := rfl
theorem bs_length (s : ByteArray) : (bs s).length = s.size := by unfold bs; rw [Array.length_toList]; rfl
theorem bs_get (s : ByteArray) (k : Nat) (h : k < s.size) : (bs s)[k]'(by rw [bs_length]; exact h) = s[k] := by unfold bs; rw [Array.getElem_toList]; rfl
theorem mk_bs (s : ByteArray) : (⟨(bs s).toArray⟩ : ByteArray) = s := rfl

theorem pow7 (k : Nat) : 2 ^ (7 * k) = 128 ^ k := by rw [Nat.pow_mul]
/-- one digit more, as the program puts it -/
theorem acc_step (x c k : Nat) (hc : c < 256) (hk : k ≤ 9) (hx : x < 128 ^ k) (hs : c % 128 * 128 ^ k < 18446744073709551616) :
    bits BinOp.or IntKind.u64 (x : Int) (IntKind.u64.wrap (IntKind.u64.wrap (bits BinOp.andNot IntKind.u8 (c : Int) 128) * 2 ^ (7 * k))) = ((x + c % 128 * 128 ^ k : Nat) : Int) := by
  have e1 : bits BinOp.andNot IntKind.u8 (c : Int) 128 = ((c % 128 : Nat) : Int) := by
    have := u8_andNot_nat c 128 hc (by omega)
    rw [nat_mask7] at this; exact this
  have hx2 : x < 18446744073709551616 := by
    have : (128 : Nat) ^ k ≤ 128 ^ 9 := Nat.pow_le_pow_right (by omega) hk
    simp at this; omega
  have e2 : IntKind.u64.wrap ((c % 128 : Nat) : Int) = ((c % 128 : Nat) : Int) := by rw [IntKind.wrap_u64]; omega
  have e3 : (2 : Int) ^ (7 * k) = ((128 ^ k : Nat) : Int) := by rw [← pow7, Int.natCast_pow]; rfl
  have e4 : ((c % 128 : Nat) : Int) * ((128 ^ k : Nat) : Int) = ((c % 128 * 128 ^ k : Nat) : Int) := (Int.natCast_mul _ _).symm
  rw [e1, e2, e3, e4]
  have e5 : IntKind.u64.wrap ((c % 128 * 128 ^ k : Nat) : Int) = ((c % 128 * 128 ^ k : Nat) : Int) := by rw [IntKind.wrap_u64]; omega
  rw [e5, u64_or_nat _ _ hx2 hs, Nat.or_comm, nat_join (7 * k) _ _ (by rw [pow7]; exact Nat.mul_mod_left _ _) (by rw [pow7]; exact hx), Nat.add_comm]
theorem bs_at (s : ByteArray) (k : Nat) (h : k < s.size) : (bs s)[k]? = some s[k] := by
  have h' : k < (bs s).length := by rw [bs_length]; exact h
  rw [List.getElem?_eq_getElem h', bs_get s k h]
theorem take_at {l : List UInt8} {k : Nat} {c : UInt8} (h : l[k]? = some c) : l.take (k + 1) = l.take k ++ [c] := by
  obtain ⟨hk, rfl⟩ := List.getElem?_eq_some_iff.1 h
  exact List.take_succ_eq_append_getElem hk
theorem digs_at {l : List UInt8} {k : Nat} {c : UInt8} (h : l[k]? = some c) : digs (l.take (k + 1)) = digs (l.take k) + c.toNat % 128 * 128 ^ k := by
  obtain ⟨hk, _⟩ := List.getElem?_eq_some_iff.1 h
  rw [take_at h, digs_snoc, List.length_take, Nat.min_eq_left (by omega)]
theorem digs_take_lt {l : List UInt8} {k : Nat} (hk : k ≤ l.length) : digs (l.take k) < 128 ^ k := by
  have := digs_lt (l.take k)
  rw [List.length_take, Nat.min_eq_left hk] at this
  exact this
/-- where the loop finds the last byte, by that byte -/
theorem long_at {l : List UInt8} {k : Nat} {c : UInt8} (h : l[k]? = some c) (h10 : k < 10) (h1 : ∀ j d, j < k → l[j]? = some d → 128 ≤ d.toNat) (h2 : c.toNat < 128) :
    long l = if lastOk k c.toNat then (digs (l.take k) + c.toNat % 128 * 128 ^ k, k + 1, 0) else (0, 0, 5) := by
  rw [← digs_at h]
  obtain ⟨hk, rfl⟩ := List.getElem?_eq_some_iff.1 h
  exact long_hit l k hk h10 (fun j hj => h1 j _ hj (List.getElem?_eq_getElem (by omega))) h2
theorem long_none {l : List UInt8} {k : Nat} (hk : k ≤ l.length) (h1 : ∀ j d, j < k → l[j]? = some d → 128 ≤ d.toNat) (h2 : k = l.length ∨ k = 10) :
    long l = if l.length < 10 then (0, 0, 4) else (0, 0, 5) :=
  long_miss l k hk (fun j hj => h1 j _ hj (List.getElem?_eq_getElem (by omega))) h2
theorem leads_more {l : List UInt8} {k : Nat} {c : UInt8} (h1 : ∀ j d, j < k → l[j]? = some d → 128 ≤ d.toNat) (h : l[k]? = some c) (hc : 128 ≤ c.toNat) :
    ∀ j d, j < k + 1 → l[j]? = some d → 128 ≤ d.toNat := fun j d hj hd => by
  by_cases e : j = k
  · subst e; rw [h] at hd; injection hd with hd; subst hd; exact hc
  · exact h1 j d (by omega) hd

theorem digit_fits (c k : Nat) (_ : c < 256) (hk : k ≤ 8) : c % 128 * 128 ^ k < 18446744073709551616 := by
  have h1 : (128 : Nat) ^ k ≤ 128 ^ 8 := Nat.pow_le_pow_right (by omega) hk
  have h2 : c % 128 * 128 ^ k ≤ 127 * 128 ^ 8 := Nat.mul_le_mul (by omega) h1
  simp at h2
  omega
theorem last_fits (c k : Nat) (hc : c < 128) (hk : k ≤ 9) (h : lastOk k c = true) : c % 128 * 128 ^ k < 18446744073709551616 := by
  by_cases h9 : k = 9
  · subst h9
    simp [lastOk] at h
    have h2 : c % 128 * 128 ^ 9 ≤ 1 * 128 ^ 9 := Nat.mul_le_mul_right _ (by omega)
    simp at h2
    omega
  · exact digit_fits c k (by omega) (by omega)
theorem long_err (l : List UInt8) (h : (long l).2.2 ≠ 0) : (long l).1 = 0 ∧ (long l).2.1 = 0 := by
  unfold long at h ⊢
  split
  · rename_i h1
    rw [if_pos h1] at h
    split
    · rename_i h2; rw [if_pos h2] at h; simp at h
    · simp
  · split <;> simp
theorem long_ok (l : List UInt8) (h : (long l).2.2 = 0) : (long l).1 = digs (l.take (long l).2.1) := by
  unfold long at h ⊢
  split
  · rename_i h1
    rw [if_pos h1] at h
    split
    · simp
    · rename_i h2; rw [if_neg h2] at h; simp at h
  · rename_i h1; rw [if_neg h1] at h; split at h <;> simp at h
theorem digs_drop {l : List UInt8} {k : Nat} {c : UInt8} (h : l[k]? = some c) : digs (l.drop k) = c.toNat % 128 + 128 * digs (l.drop (k + 1)) := by
  obtain ⟨hk, rfl⟩ := List.getElem?_eq_some_iff.1 h
  rw [List.drop_eq_getElem_cons hk, digs]
theorem digs_drop_le (l : List UInt8) (k : Nat) : digs (l.drop k) ≤ digs l := by
  induction k generalizing l with
  | zero => simp
  | succ k ih =>
    cases l with
    | nil => simp
    | cons c r => rw [List.drop_succ_cons, digs]; have := ih r; omega
theorem ret3 {a b c a' b' c' : Int} (h1 : a = a') (h2 : b = b') (h3 : c = c') :
    Ending.returned (.tuple #[.int .u64 a, .int .i64 b, .int .i64 c]) = .returned (.tuple #[.int .u64 a', .int .i64 b', .int .i64 c']) := by rw [h1, h2, h3]
end Go.Proofs.YtebldfnocpcddaaGreatDoor

/-
  Strings and the lists of their bytes; one byte made into a string.
-/
namespace Go.Proofs.YtebldfnocpcddaaGreatDoor
open Go.RowKit

/-- one byte, built as a slice, made into a string -/
theorem run_string_one (w : World) (b : Nat) (cap : Nat) (z : Int) (c : UInt8) (hz : z = (c.toNat : Int)) (hc : w.cell? ⟨b, 0, none⟩ = some (.int .u8 z)) :
    (convert 47 9 (.slice (some ⟨b, 0, none⟩) 1 cap)).run Tryz.prog w = .ok (.string ⟨#[c]⟩) w := by
  subst hz
  refine run_convert_bytes_back w 47 9 5 ⟨b, 0, none⟩ cap [c] Tryz.underlying47 Tryz.underlying5 Tryz.underlying9 fun j hj => ?_
  match j, hj with
  | 0, _ => simpa [Addr.add] using hc
theorem str_append (a b : List UInt8) : (⟨a.toArray⟩ : ByteArray) ++ ⟨b.toArray⟩ = ⟨(a ++ b).toArray⟩ := by
  apply ByteArray.ext; simp [ByteArray.data_append]
theorem ba_size (l : List UInt8) : (⟨l.toArray⟩ : ByteArray).size = l.length := by show l.toArray.size = _; rw [List.size_toArray]
theorem str_bs (s : ByteArray) (l : List UInt8) : s ++ ⟨l.toArray⟩ = ⟨(bs s ++ l).toArray⟩ := by
  apply ByteArray.ext; simp [ByteArray.data_append, bs]
theorem bs_append (a b : ByteArray) : bs (a ++ b) = bs a ++ bs b := by simp [bs, ByteArray.data_append]
theorem bs_eq {a b : ByteArray} (h : bs a = bs b) : a = b := by
  cases a; cases b
  simp [bs] at h
  exact congrArg ByteArray.mk h
theorem bs_extract (s : ByteArray) (i j : Nat) : bs (s.extract i j) = ((bs s).take j).drop i := by
  simp [bs, List.extract_eq_take_drop, List.drop_take]
def strSize : Value → Nat
  | .string s => s.size
  | _ => 0
theorem ne_empty (r : ByteArray) (h : 0 < r.size) : (r.toList == []) = false := by
  rw [ByteArray.toList_eq]
  have h1 := bs_length r
  show (bs r == []) = false
  cases hb : bs r with
  | nil => rw [hb] at h1; simp at h1; omega
  | cons a t => rfl
theorem is_empty (r : ByteArray) (h : r.size = 0) : r = ⟨#[]⟩ := bs_eq (List.eq_nil_of_length_eq_zero (by rw [bs_length]; exact h))
theorem bs_rest (r : ByteArray) (k : Nat) : bs (r.extract k r.size) = (bs r).drop k := by
  rw [bs_extract, List.take_of_length_le (by rw [bs_length]; omega)]
theorem bs_front (r : ByteArray) (k : Nat) : bs (r.extract 0 k) = (bs r).take k := by
  rw [bs_extract, List.drop_zero]
theorem bs_cons (s : ByteArray) (h : 0 < s.size) : ∃ t, bs s = s[0] :: t ∧ t.length + 1 = s.size ∧ ∀ i (hi : i + 1 < s.size), t[i]? = some s[i + 1] := by
  have h0 := bs_at s 0 h
  have hl := bs_length s
  have ha := fun i hi => bs_at s (i + 1) hi
  cases hs : bs s with
  | nil => rw [hs] at hl; simp at hl; omega
  | cons a t =>
    rw [hs] at h0 hl
    simp at h0
    refine ⟨t, by rw [h0], by simpa using hl, fun i hi => ?_⟩
    have := ha i hi
    rw [hs] at this
    simpa using this
end Go.Proofs.YtebldfnocpcddaaGreatDoor

/-
  Rows of int that a call makes by itself, and slices of int that lie somewhere; a string appended to a row of bytes.
-/
namespace Go.Proofs.YtebldfnocpcddaaGreatDoor
open Go.RowKit

theorem infoInt : (Tryz.prog.info? 3).map (fun i => (i.zero, i.size, i.bytes)) = some (some (.int .i64 0), 1, 8) := by kernel_rfl
/-- ints as cells -/
def I64 (l : List Int) : List Value := l.map fun n => Value.int .i64 n
theorem I64_append (a b : List Int) : I64 (a ++ b) = I64 a ++ I64 b := List.map_append
/-- the slice value v is a row of the call's own, from block base on, and holds the ints l -/
def OwnI (w : World) (base : Nat) (v : Value) (l : List Int) : Prop := w.ownsRow base 3 1 v l.length (I64 l)
theorem OwnI.nil (w : World) (base : Nat) : OwnI w base (.slice none 0 0) [] := World.ownsRow_nil _ _ _ _

theorem wpList_append_int {w : World} {ops : Array Oper} {rest : List Oper} {o : Oper} {a : Act} {Q : Exit → Act → World → Prop} (hgd : o.guard = none) (s x : Operand)
    (ho : o.op = .call { callee := .builtin .append, args := #[s, x], argTypes := #[103, 103] })
    (base : Nat) (v : Value) (l : List Int) (c : Int)
    (hown : OwnI w base v l) (hs : a.eval s = v) (hx : a.eval x = .slice (some ⟨w.heap.size, 0, none⟩) 1 1) (hlen : l.length < 1099511627776) (hbase : base ≤ w.heap.size)
    (h : ∀ v' w', OwnI w' base v' (l ++ [c]) → (w.alloc (.cells #[.int .i64 c] 3)).grownBy w' v.ownBlock → Below base w w' → wpList Tryz.prog ops Q rest (a.put o.dst v') w') :
    wpList Tryz.prog ops Q (o :: rest) a (w.alloc (.cells #[.int .i64 c] 3)) := by
  obtain ⟨i0, hi, hz0, hz1, hz2⟩ := info_parts infoInt
  refine wpList_append_own _ hgd s x 103 ho base 3 i0 (.int .i64 0) 1 8 Tryz.underlying103 hi hz0 hz1 hz2 rfl (by decide) v l.length (I64 l) hs (World.ownsRow.alloc hown _)
    ⟨w.heap.size, 0, none⟩ 1 1 [.int .i64 c] hx rfl (fun j u hj => ?_) (fun u hu => ?_) (by unfold maxLen; omega) (by omega) (by simp; omega) ?_
  · match j, hj with
    | 0, hj => simp at hj; subst hj; simp [Addr.add]
  · simp at hu; subst hu; rfl
  · intro v' w' h1 h2 _
    refine h v' w' ?_ ?_ (((Below.refl base w).alloc hbase _).grown h2 (by simp; omega) (fun k hk => ?_))
    · unfold OwnI
      rw [I64_append, List.length_append]
      exact h1
    · exact h2
    · exact ((World.ownsRow.lt hown) k hk).1

theorem owns_below {B : Nat} {e : TypeId} {k : Nat} {v : Value} {n : Nat} {xs : List Value} {w w' : World} (h : w.ownsRow B e k v n xs) (hb : Below w.heap.size w w') : w'.ownsRow B e k v n xs := by
  refine ⟨h.1, ?_⟩
  rcases h.2 with ⟨h1, h2⟩ | ⟨g, cap, cur, h1, h2, h3, h4⟩
  · exact .inl ⟨h1, h2⟩
  · refine .inr ⟨g, cap, cur, h1, h2, ?_, h4⟩
    have hlt : g < w.heap.size := (Array.getElem?_eq_some_iff.1 h3).1
    rw [← h3]; exact hb.block g hlt
theorem OwnI.below {w w' : World} {base : Nat} {v : Value} {l : List Int} (h : OwnI w base v l) (hb : Below w.heap.size w w') : OwnI w' base v l := owns_below h hb
theorem OwnB.below {w w' : World} {base : Nat} {v : Value} {l : List UInt8} (h : OwnB w base v l) (hb : Below w.heap.size w w') : OwnB w' base v l := owns_below h hb
theorem OwnI.mono {w : World} {base base' : Nat} {v : Value} {l : List Int} (h : OwnI w base v l) (hb : base' ≤ base) : OwnI w base' v l := by
  refine ⟨h.1, ?_⟩
  rcases h.2 with ⟨h1, h2⟩ | ⟨g, cap, cur, h1, h2, h3⟩
  · exact .inl ⟨h1, h2⟩
  · exact .inr ⟨g, cap, cur, h1, Nat.le_trans hb h2, h3⟩
theorem OwnI.form {w : World} {base : Nat} {v : Value} {l : List Int} (h : OwnI w base v l) (hl : 0 < l.length) : ∃ g cap, v = .slice (some ⟨g, 0, none⟩) l.length cap := by
  rcases h.2 with ⟨h1, h2⟩ | ⟨g, cap, cur, h1, h2, _⟩
  · omega
  · exact ⟨g, cap, h1⟩
/-- a slice of ints that lies below block B -/
def IntsAt (w : World) (B : Nat) (A : Option Addr) (zs : List Int) : Prop :=
  0 < zs.length → ∃ b off, A = some ⟨b, off, none⟩ ∧ b < B ∧ ∀ j (hj : j < zs.length), w.cell? ⟨b, off + j, none⟩ = some (.int .i64 zs[j])
theorem IntsAt.of_own {w : World} {base : Nat} {v : Value} {zs : List Int} (h : OwnI w base v zs) : ∃ A c, v = .slice A zs.length c ∧ IntsAt w w.heap.size A zs := by
  rcases h.2 with ⟨rfl, hl⟩ | ⟨g, cap, cur, rfl, hb, hg, _⟩
  · exact ⟨none, 0, by rw [hl], fun hp => absurd hp (by omega)⟩
  · refine ⟨some ⟨g, 0, none⟩, cap, rfl, fun _ => ⟨g, 0, rfl, (Array.getElem?_eq_some_iff.1 hg).1, fun j hj => ?_⟩⟩
    have := World.ownsRow.cells h (g := g) rfl j (.int .i64 zs[j]) (by simp [I64, hj])
    simpa [Addr.add_lit] using this
theorem IntsAt.below {w w' : World} {B : Nat} {A : Option Addr} {zs : List Int} (h : IntsAt w B A zs) (hb : Below B w w') : IntsAt w' B A zs := fun hl => by
  obtain ⟨b, off, rfl, h1, h2⟩ := h hl
  exact ⟨b, off, rfl, h1, fun j hj => (hb.cell (p := ⟨b, off + j, none⟩) h1).trans (h2 j hj)⟩
theorem IntsAt.more {w : World} {B B' : Nat} {A : Option Addr} {zs : List Int} (h : IntsAt w B A zs) (hB : B ≤ B') : IntsAt w B' A zs := fun hl => by
  obtain ⟨b, off, rfl, h1, h2⟩ := h hl
  exact ⟨b, off, rfl, by omega, h2⟩
/-- ints come in -/
def IntsIn (k : IntKind) (w : World) (a : Option Addr) (len cap : Nat) (zs : List Int) : Prop :=
  (a = none ∧ len = 0 ∧ cap = 0 ∧ zs = []) ∨
  ∃ x, a = some x ∧ len ≤ cap ∧ cap ≤ maxLen ∧ zs.length = cap ∧ (∀ i, i < zs.length → w.cell? (x.add i) = some (.int k (zs.getD i 0))) ∧ ∀ n ∈ zs, (Lit.int k n).wf = true

/-- a string's bytes appended to a row of bytes -/
theorem wpList_append_str {w : World} {ops : Array Oper} {rest : List Oper} {o : Oper} {a : Act} {Q : Exit → Act → World → Prop} (hgd : o.guard = none) (sl x : Operand)
    (ho : o.op = .call { callee := .builtin .append, args := #[sl, x], argTypes := #[47, 9] })
    (base : Nat) (v : Value) (l : List UInt8) (s : ByteArray)
    (hown : OwnB w base v l) (hs : a.eval sl = v) (hx : a.eval x = .string s) (hlen : l.length + s.size < 1099511627776) (hbase : base ≤ w.heap.size)
    (h : ∀ v' w', OwnB w' base v' (l ++ bs s) → Below base w w' → wpList Tryz.prog ops Q rest (a.put o.dst v') w') :
    wpList Tryz.prog ops Q (o :: rest) a w := by
  obtain ⟨i0, hi, hz0, hz1, hz2⟩ := info_parts info8
  refine Lib.wpList_append_own_string w hgd sl x 47 9 ho base 5 i0 Tryz.underlying47 Tryz.underlying9 hi hz0 hz1 hz2 v l.length (B8 l) hs hown s hx (by unfold maxLen; omega) (by omega) hbase ?_
  intro v' w' h1 h2 _
  refine h v' w' ?_ ((Below.refl base w).grown h2 hbase (fun k hk => ((World.ownsRow.lt hown) k hk).1))
  unfold OwnB
  rw [B8_append, List.length_append, bs_length]
  exact h1
end Go.Proofs.YtebldfnocpcddaaGreatDoor

/-
  Tables at package level: out of the row's condition, wherever they stand on its list.
-/
namespace Go.Proofs.YtebldfnocpcddaaGreatDoor

theorem laidMet_tail {P : Program} {W : World} {x : String × DataW Unit} {rest : List (String × DataW Unit)} (h : laidMet P (x :: rest) W) : laidMet P rest W := by
  obtain ⟨ps, ⟨g, t, cs, fuel, p, q, _, _, _, _, hr, hps⟩, hnd, hall⟩ := h
  subst hps
  exact ⟨q, hr, (List.nodup_append.1 hnd).2.1, fun b off hm => hall b off (List.mem_append_right _ hm)⟩
theorem tabIs_of_mem {P : Program} {W : World} {name : String} {k : IntKind} {zs : List Int} {g : Nat} {t e : TypeId} {n : Nat}
    (hg : P.globalNamed name = some g) (hty : (P.globals[g]?).map (·.type) = some t) (ht : P.underlying t = some (.array n e)) (he : P.underlying e = some (.int k)) (hce : P.cellsOf e = 1) (hct : P.cellsOf t = n) :
    ∀ {l : List (String × DataW Unit)}, (name, Lib.tabData k zs) ∈ l → laidMet P l W → Lib.TabIs P W name k zs
  | x :: rest, hm, h => by
    rcases List.mem_cons.1 hm with rfl | hm
    · exact Lib.tabIs_of_head hg hty ht he hce hct h
    · exact tabIs_of_mem hg hty ht he hce hct hm (laidMet_tail h)
end Go.Proofs.YtebldfnocpcddaaGreatDoor

/-
  A region that draws its order, whose own operations only read no memory that a callee makes and whose callees may make memory: walked once, in the order of the text.
-/
namespace Go.Proofs.YtebldfnocpcddaaGreatDoor
open Go.RowKit

/-- a world in which all that lay below B in w lies as it was -/
def BelowBy (B : Nat) (w : World) : Type := { x : World // Below B w x }
def BelowBy.x {B : Nat} {w : World} (p : BelowBy B w) : World := p.1
theorem BelowBy.h {B : Nat} {w : World} (p : BelowBy B w) : Below B w p.x := p.2
theorem BelowBy.step {B : Nat} {w w' : World} (p : BelowBy B w) (hB : B ≤ w.heap.size) (h : Below p.x.heap.size p.x w') : ∃ q : BelowBy B w, w' = q.x :=
  ⟨⟨w', p.h.trans (h.mono (Nat.le_trans hB p.h.size))⟩, rfl⟩
theorem wp_region_below {P : Program} {id : Nat} {Q : Exit → Act → World → Prop} {a : Act} {w : World} {l : List Oper} (B : Nat) (hm : P.follows .mixedOrders = true) (hB : Region.lexB .any l.toArray = true)
    (h : wpQuiet P l.toArray (fun w' => ∃ p : BelowBy B w, w' = p.x) (fun a' => ∀ w', (∃ p : BelowBy B w, w' = p.x) → Q .normal a' w') l a) : (Code.region id l.toArray true).wp P Q a w :=
  wp_region_quiet (C := fun w' => ∃ p : BelowBy B w, w' = p.x) hm hB ⟨⟨_, (Below.refl B w).drew⟩, rfl⟩ (by simpa using h)
end Go.Proofs.YtebldfnocpcddaaGreatDoor

/-
  Numbers as so many bytes, the lowest first, plainly. It speaks of no program.
-/
namespace Go.Proofs.YtebldfnocpcddaaGreatDoor
open Go.RowKit

/-- k bytes of n -/
def le : Nat → Nat → List UInt8
  | 0, _ => []
  | k + 1, n => UInt8.ofNat (n % 256) :: le k (n / 256)
/-- the number of bytes -/
def unle : List UInt8 → Nat
  | [] => 0
  | c :: r => c.toNat + 256 * unle r
/-- the number of just k bytes, and the error -/
def get (l : List UInt8) (k : Nat) : Nat × Nat := if l.length < k then (0, 4) else if k < l.length then (0, 6) else (unle l, 0)

theorem le_length : ∀ k n, (le k n).length = k
  | 0, _ => rfl
  | k + 1, n => by simp [le, le_length k]
theorem le_snoc : ∀ k n, le (k + 1) n = le k n ++ [UInt8.ofNat (n / 256 ^ k % 256)]
  | 0, n => by simp [le]
  | k + 1, n => by
    rw [le, le_snoc k (n / 256), le, List.cons_append, Nat.div_div_eq_div_mul, Nat.pow_succ, Nat.mul_comm 256]
theorem unle_le : ∀ k n, n < 256 ^ k → unle (le k n) = n
  | 0, n, h => by simp at h; simp [le, unle, h]
  | k + 1, n, h => by
    have h2 : n / 256 < 256 ^ k := by rw [Nat.div_lt_iff_lt_mul (by omega)]; rw [Nat.pow_succ] at h; exact h
    rw [le, unle, unle_le k (n / 256) h2, UInt8.toNat_ofNat']
    omega
theorem le_unle : ∀ l : List UInt8, le l.length (unle l) = l
  | [] => rfl
  | c :: r => by
    have hc := c.toNat_lt
    rw [List.length_cons, le, unle, show (c.toNat + 256 * unle r) / 256 = unle r by omega, le_unle r, show (c.toNat + 256 * unle r) % 256 = c.toNat by omega]
    simp
theorem unle_lt : ∀ l : List UInt8, unle l < 256 ^ l.length
  | [] => by simp [unle]
  | c :: r => by
    have hc := c.toNat_lt
    have := unle_lt r
    rw [unle, List.length_cons, Nat.pow_succ]; omega
theorem unle_snoc : ∀ (l : List UInt8) (c : UInt8), unle (l ++ [c]) = unle l + c.toNat * 256 ^ l.length
  | [], c => by simp [unle]
  | d :: l, c => by
    simp only [List.cons_append, unle, unle_snoc l c, List.length_cons, Nat.pow_succ, Nat.mul_add]
    rw [Nat.add_assoc, ← Nat.mul_assoc, Nat.mul_comm 256 c.toNat, Nat.mul_assoc, Nat.mul_comm 256 (256 ^ l.length)]
theorem unle_drop {l : List UInt8} {k : Nat} {c : UInt8} (h : l[k]? = some c) : unle (l.drop k) = c.toNat + 256 * unle (l.drop (k + 1)) := by
  obtain ⟨hk, rfl⟩ := List.getElem?_eq_some_iff.1 h
  rw [List.drop_eq_getElem_cons hk, unle]
theorem unle_take {l : List UInt8} {k : Nat} {c : UInt8} (h : l[k]? = some c) : unle (l.take (k + 1)) = unle (l.take k) + c.toNat * 256 ^ k := by
  obtain ⟨hk, _⟩ := List.getElem?_eq_some_iff.1 h
  rw [take_at h, unle_snoc, List.length_take, Nat.min_eq_left (by omega)]
theorem unle_take_lt {l : List UInt8} {k : Nat} (hk : k ≤ l.length) : unle (l.take k) < 256 ^ k := by
  have := unle_lt (l.take k)
  rw [List.length_take, Nat.min_eq_left hk] at this
  exact this
theorem unle_drop_le (l : List UInt8) (k : Nat) : unle (l.drop k) ≤ unle l := by
  induction k generalizing l with
  | zero => simp
  | succ k ih =>
    cases l with
    | nil => simp
    | cons c r => rw [List.drop_succ_cons, unle]; have := ih r; omega

theorem pow8 (k : Nat) : 2 ^ (8 * k) = 256 ^ k := by rw [Nat.pow_mul]
theorem pow8i (k : Nat) : (2 : Int) ^ (8 * k) = ((256 ^ k : Nat) : Int) := by rw [← pow8, Int.natCast_pow]; rfl
/-- one byte more, as the program puts it -/
theorem or_step (x c k : Nat) (hc : c < 256) (hk : k ≤ 7) (hx : x < 256 ^ k) :
    bits BinOp.or IntKind.u64 (x : Int) (IntKind.u64.wrap ((c : Int) * 2 ^ (8 * k))) = ((x + c * 256 ^ k : Nat) : Int) := by
  have h1 : (256 : Nat) ^ k ≤ 256 ^ 7 := Nat.pow_le_pow_right (by omega) hk
  have h2 : c * 256 ^ k ≤ 255 * 256 ^ 7 := Nat.mul_le_mul (by omega) h1
  simp at h1 h2
  have e4 : (c : Int) * ((256 ^ k : Nat) : Int) = ((c * 256 ^ k : Nat) : Int) := (Int.natCast_mul _ _).symm
  have e5 : IntKind.u64.wrap ((c * 256 ^ k : Nat) : Int) = ((c * 256 ^ k : Nat) : Int) := by rw [IntKind.wrap_u64]; omega
  rw [pow8i, e4, e5, u64_or_nat _ _ (by omega) (by omega), Nat.or_comm, nat_join (8 * k) _ _ (by rw [pow8]; exact Nat.mul_mod_left _ _) (by rw [pow8]; exact hx), Nat.add_comm]
/-- one byte, as the program cuts it off -/
theorem shr_byte (n k : Nat) : ((n : Int) / 2 ^ (8 * k)) % 256 = ((UInt8.ofNat (n / 256 ^ k % 256)).toNat : Int) := by
  rw [pow8i, UInt8.toNat_ofNat', ← Int.natCast_ediv]; omega
theorem le_part (size k n : Nat) (h : k < size) : (le k n ++ List.replicate (size - k) 0).set k (UInt8.ofNat (n / 256 ^ k % 256)) = le (k + 1) n ++ List.replicate (size - (k + 1)) 0 := by
  obtain ⟨m, hm⟩ : ∃ m, size - k = m + 1 := ⟨size - k - 1, by omega⟩
  rw [hm, List.replicate_succ, List.set_append_right _ _ (by rw [le_length]; omega), le_length, Nat.sub_self, List.set_cons_zero, le_snoc, List.append_assoc, show size - (k + 1) = m by omega]
  rfl
end Go.Proofs.YtebldfnocpcddaaGreatDoor
