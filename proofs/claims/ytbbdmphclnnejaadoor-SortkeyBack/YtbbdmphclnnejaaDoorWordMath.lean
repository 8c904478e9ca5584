/-
  Plain arithmetic for layer word: zigzag numbers and numbers of so many bits. It speaks of no program.
-/
import Derived.WalkKit
import Derived.Laws.BitsAllLaws
import Derived.Laws.Bits64
namespace Go.Proofs.YtbbdmphclnnejaaDoor
open Go.RowKit

def zig (n : Int) : Int := if 0 ≤ n then 2 * n else -2 * n - 1
def zag (u : Int) : Int := if u % 2 = 0 then u / 2 else -1 - u / 2

theorem wrap64_eq (n : Int) : wrap64 n = (n + 9223372036854775808) % 18446744073709551616 - 9223372036854775808 := by
  unfold wrap64; omega

theorem zig_bounds (n : Int) (h1 : -9223372036854775808 ≤ n) (h2 : n < 9223372036854775808) : 0 ≤ zig n ∧ zig n < 18446744073709551616 := by
  unfold zig; split <;> omega
theorem zag_bounds (u : Int) (h1 : 0 ≤ u) (h2 : u < 18446744073709551616) : -9223372036854775808 ≤ zag u ∧ zag u < 9223372036854775808 := by
  unfold zag; split <;> omega
theorem zag_zig (n : Int) : zag (zig n) = n := by
  unfold zig zag; split <;> split <;> omega
theorem zig_zag (u : Int) (h1 : 0 ≤ u) : zig (zag u) = u := by
  unfold zag; split <;> (unfold zig; split <;> omega)

theorem xor_ones (x : Nat) (hx : x < 18446744073709551616) : x ^^^ 18446744073709551615 = 18446744073709551615 - x := by
  have h := BitVec.toNat_not (x := BitVec.ofNat 64 x)
  rw [← BitVec.xor_allOnes, BitVec.toNat_xor, BitVec.toNat_allOnes, BitVec.toNat_ofNat] at h
  rw [show x % 2 ^ 64 = x from Nat.mod_eq_of_lt hx] at h
  simpa using h

theorem zig_bits (n : Int) (h1 : -9223372036854775808 ≤ n) (h2 : n < 9223372036854775808) :
    bits BinOp.xor IntKind.u64 (IntKind.u64.wrap (IntKind.u64.wrap n * 2)) (IntKind.u64.wrap (n / 9223372036854775808)) = zig n := by
  rw [IntKind.wrap_u64, IntKind.wrap_u64, IntKind.wrap_u64]
  unfold zig
  by_cases h : 0 ≤ n
  · rw [if_pos h]
    obtain ⟨k, rfl⟩ := Int.eq_ofNat_of_zero_le h
    rw [show ((k : Int) % 18446744073709551616 * 2) % 18446744073709551616 = ((2 * k : Nat) : Int) by omega,
      show ((k : Int) / 9223372036854775808) % 18446744073709551616 = ((0 : Nat) : Int) by omega, bits_xor_u64_nat _ _ (by omega) (by omega), Nat.xor_zero]
    omega
  · rw [if_neg h]
    obtain ⟨k, hk⟩ := Int.eq_ofNat_of_zero_le (a := 2 * n + 18446744073709551616) (by omega)
    rw [show (n % 18446744073709551616 * 2) % 18446744073709551616 = ((k : Nat) : Int) by omega,
      show (n / 9223372036854775808) % 18446744073709551616 = ((18446744073709551615 : Nat) : Int) by omega, bits_xor_u64_nat _ _ (by omega) (by omega), xor_ones _ (by omega)]
    omega

theorem wrap_i64_eq (n : Int) : IntKind.i64.wrap n = (n + 9223372036854775808) % 18446744073709551616 - 9223372036854775808 := by
  simp [IntKind.wrap, IntKind.bits, IntKind.signed]; split <;> omega

theorem xor_i64_zero (a : Nat) (ha : a < 9223372036854775808) : bits BinOp.xor IntKind.i64 (a : Int) 0 = a := by
  show IntKind.i64.wrap ((BitVec.ofInt 64 (a : Int) ^^^ BitVec.ofInt 64 (0 : Int)).toNat : Int) = _
  rw [BitVec.toNat_xor, BitVec.ofInt_natCast, BitVec.toNat_ofNat, show (BitVec.ofInt 64 0).toNat = 0 from by decide, Nat.xor_zero, wrap_i64_eq]
  omega
theorem xor_i64_ones (a : Nat) (ha : a < 9223372036854775808) : bits BinOp.xor IntKind.i64 (a : Int) (-1) = -1 - a := by
  show IntKind.i64.wrap ((BitVec.ofInt 64 (a : Int) ^^^ BitVec.ofInt 64 (-1 : Int)).toNat : Int) = _
  rw [BitVec.toNat_xor, BitVec.ofInt_natCast, BitVec.toNat_ofNat, show (BitVec.ofInt 64 (-1)).toNat = 18446744073709551615 from by decide, xor_ones _ (by omega), wrap_i64_eq]
  omega

theorem zag_bits (n : Int) (h1 : 0 ≤ n) (h2 : n < 18446744073709551616) :
    bits BinOp.xor IntKind.i64 (n / 2) (wrap64 (-wrap64 (bits BinOp.and IntKind.u64 n 1))) = zag n := by
  obtain ⟨k, rfl⟩ := Int.eq_ofNat_of_zero_le h1
  have e1 : bits BinOp.and IntKind.u64 (k : Int) 1 = ((k % 2 : Nat) : Int) := by
    have := u64_and_nat k 1 (by omega) (by omega)
    rw [nat_mask1] at this; exact this
  have e2 : ((k : Nat) : Int) / 2 = ((k / 2 : Nat) : Int) := by omega
  have e3 : wrap64 (((k % 2 : Nat)) : Int) = ((k % 2 : Nat) : Int) := by rw [wrap64_eq]; omega
  have e4 : wrap64 (-((k % 2 : Nat) : Int)) = -((k % 2 : Nat) : Int) := by rw [wrap64_eq]; omega
  rw [e1, e2, e3, e4]
  unfold zag
  by_cases h : k % 2 = 0
  · rw [if_pos (by omega), h]
    exact (xor_i64_zero (k / 2) (by omega)).trans (by omega)
  · rw [if_neg (by omega), show k % 2 = 1 by omega]
    exact (xor_i64_ones (k / 2) (by omega)).trans (by omega)

theorem two_pow_le (j m : Nat) (h : j ≤ m) : (2 : Int) ^ j ≤ 2 ^ m := by
  have := Nat.pow_le_pow_right (show 0 < 2 by omega) h
  have e : ∀ k : Nat, (2 : Int) ^ k = ((2 ^ k : Nat) : Int) := fun k => by simp
  rw [e, e]; omega
theorem two_pow_pos (j : Nat) : (0 : Int) < 2 ^ j := Int.pow_pos (by omega)

/-- the number of b bits that n is cut to -/
def low (n : Int) (b : Nat) : Int := (n + 2 ^ (b - 1)) % 2 ^ b - 2 ^ (b - 1)

theorem low_shift (n : Int) (b : Nat) (h1 : 1 ≤ b) (h2 : b ≤ 64) : wrap64 (n * 2 ^ (64 - b)) / 2 ^ (64 - b) = low n b := by
  have hp := two_pow_pos (64 - b)
  have e1 : (9223372036854775808 : Int) = 2 ^ (b - 1) * 2 ^ (64 - b) := by
    rw [← Int.pow_add, show b - 1 + (64 - b) = 63 by omega]; rfl
  have e2 : (18446744073709551616 : Int) = 2 ^ b * 2 ^ (64 - b) := by
    rw [← Int.pow_add, show b + (64 - b) = 64 by omega]; rfl
  unfold low
  rw [wrap64_eq]
  generalize (2 : Int) ^ (64 - b) = q at *
  generalize (2 : Int) ^ (b - 1) = h at *
  generalize (2 : Int) ^ b = p at *
  rw [e2, e1, ← Int.add_mul, Int.mul_comm (n + h) q, Int.mul_comm p q, Int.mul_emod_mul_of_pos _ _ hp, Int.mul_comm h q, ← Int.mul_sub, Int.mul_ediv_cancel_left _ (by omega)]

theorem low_bounds (n : Int) (b : Nat) (h1 : 1 ≤ b) : -2 ^ (b - 1) ≤ low n b ∧ low n b < 2 ^ (b - 1) := by
  have e : (2 : Int) ^ b = 2 * 2 ^ (b - 1) := by
    conv => lhs; rw [show b = (b - 1) + 1 by omega, Int.pow_succ]
    omega
  have hp := two_pow_pos (b - 1)
  unfold low
  rw [e]
  generalize (2 : Int) ^ (b - 1) = h at *
  have := Int.emod_nonneg (n + h) (b := 2 * h) (by omega)
  have := Int.emod_lt_of_pos (n + h) (b := 2 * h) (by omega)
  omega

theorem low_same (n : Int) (b : Nat) (h1 : 1 ≤ b) (h2 : -2 ^ (b - 1) ≤ n) (h3 : n < 2 ^ (b - 1)) : low n b = n := by
  have e : (2 : Int) ^ b = 2 * 2 ^ (b - 1) := by
    conv => lhs; rw [show b = (b - 1) + 1 by omega, Int.pow_succ]
    omega
  have hp := two_pow_pos (b - 1)
  unfold low
  rw [e]
  generalize (2 : Int) ^ (b - 1) = h at *
  rw [Int.emod_eq_of_lt (by omega) (by omega)]; omega

theorem low_eq_iff (n : Int) (b : Nat) (h1 : 1 ≤ b) : low n b = n ↔ (-2 ^ (b - 1) ≤ n ∧ n < 2 ^ (b - 1)) := by
  constructor
  · intro h; have := low_bounds n b h1; omega
  · intro h; exact low_same n b h1 h.1 h.2

theorem low_low (n : Int) (b : Nat) (h1 : 1 ≤ b) : low (low n b) b = low n b := by
  have := low_bounds n b h1
  exact low_same _ b h1 this.1 this.2

/-- the remainder of division towards nought, corrected once, is the number that n is cut to -/
theorem low_tmod (n : Int) (b : Nat) (h1 : 1 ≤ b) :
    (2 ^ (b - 1) ≤ n.tmod (2 * 2 ^ (b - 1)) → low n b = n.tmod (2 * 2 ^ (b - 1)) - 2 * 2 ^ (b - 1)) ∧
    (n.tmod (2 * 2 ^ (b - 1)) < -2 ^ (b - 1) → low n b = n.tmod (2 * 2 ^ (b - 1)) + 2 * 2 ^ (b - 1)) ∧
    (n.tmod (2 * 2 ^ (b - 1)) < 2 ^ (b - 1) → -2 ^ (b - 1) ≤ n.tmod (2 * 2 ^ (b - 1)) → low n b = n.tmod (2 * 2 ^ (b - 1))) := by
  have e : (2 : Int) ^ b = 2 * 2 ^ (b - 1) := by
    conv => lhs; rw [show b = (b - 1) + 1 by omega, Int.pow_succ]
    omega
  have hp := two_pow_pos (b - 1)
  unfold low
  rw [e]
  generalize (2 : Int) ^ (b - 1) = h at *
  have ht := Int.mul_tdiv_add_tmod n (2 * h)
  have hl : n.tmod (2 * h) < 2 * h := Int.tmod_lt_of_pos n (by omega)
  have hg : -(2 * h) < n.tmod (2 * h) := by
    have := Int.tmod_lt_of_pos (-n) (b := 2 * h) (by omega)
    rw [Int.neg_tmod] at this; omega
  generalize n.tmod (2 * h) = r at *
  generalize n.tdiv (2 * h) = t at *
  have key : ∀ c : Int, (n + h) % (2 * h) = (r + h + c * (2 * h)) % (2 * h) := by
    intro c
    rw [← ht, show 2 * h * t + r + h = (r + h + c * (2 * h)) + (t - c) * (2 * h) by rw [Int.sub_mul, Int.mul_comm t (2 * h)]; omega, Int.add_mul_emod_self_right]
  refine ⟨fun h1 => ?_, fun h1 => ?_, fun h1 h2 => ?_⟩
  · rw [key (-1), Int.emod_eq_of_lt (by omega) (by omega)]; omega
  · rw [key 1, Int.emod_eq_of_lt (by omega) (by omega)]; omega
  · rw [key 0, Int.emod_eq_of_lt (by omega) (by omega)]; omega
end Go.Proofs.YtbbdmphclnnejaaDoor
