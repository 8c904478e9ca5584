/-
  The mathematics of keys (layer 7): the most significant bit turned; bytes put and read, the most significant one first.
-/
import Derived.Test.YtbbdmphclnnejaaDoorSkReadMath
import Derived.Test.YtbbdmphclnnejaaDoorWordMath
namespace Go.Proofs.YtbbdmphclnnejaaDoor
open Go.RowKit

theorem xor_hi (k r : Nat) (h : r < 2 ^ k) : r ^^^ 2 ^ k = r + 2 ^ k := by
  apply Nat.eq_of_testBit_eq
  intro i
  have e := Nat.testBit_two_pow_mul_add 1 h i
  rw [Nat.mul_one] at e
  rw [Nat.testBit_xor, Nat.add_comm r, e, Nat.testBit_two_pow]
  by_cases hi : i < k
  · simp [hi, show ¬ k = i by omega]
  · rw [if_neg hi, Nat.testBit_lt_two_pow (Nat.lt_of_lt_of_le h (Nat.pow_le_pow_right (by omega) (show k ≤ i by omega)))]
    by_cases hk : k = i
    · subst hk; simp
    · have : (1 : Nat).testBit (i - k) = false := Nat.testBit_lt_two_pow (Nat.one_lt_two_pow (by omega))
      simp [hk, this]
/-- the bit above k bits turned -/
theorem xor_top (k r : Nat) (h : r < 2 ^ (k + 1)) : r ^^^ 2 ^ k = (r + 2 ^ k) % 2 ^ (k + 1) := by
  rw [Nat.pow_succ] at h ⊢
  by_cases h1 : r < 2 ^ k
  · rw [xor_hi k r h1]
    generalize 2 ^ k = P at *
    rw [Nat.mod_eq_of_lt (by omega)]
  · obtain ⟨q, rfl⟩ : ∃ q, r = q + 2 ^ k := ⟨r - 2 ^ k, by omega⟩
    have hq : q < 2 ^ k := by omega
    have e := xor_hi k q hq
    rw [← e, Nat.xor_assoc, Nat.xor_self, Nat.xor_zero, e]
    generalize 2 ^ k = P at *
    rw [show q + P + P = q + P * 2 by omega, Nat.add_mod_right, Nat.mod_eq_of_lt (by omega)]
theorem be_mod (w n : Nat) : be w n = be w (n % 256 ^ w) := by
  induction w generalizing n with
  | zero => rfl
  | succ w ih =>
    rw [be_succ, be_succ]
    have e : n % 256 ^ (w + 1) / 256 ^ w % 256 = n / 256 ^ w % 256 := by
      rw [Nat.pow_succ, Nat.mod_mul_right_div_self, Nat.mod_mod]
    have e2 : be w (n % 256 ^ (w + 1)) = be w n := by
      rw [ih (n % 256 ^ (w + 1)), Nat.mod_mod_of_dvd _ ⟨256, by rw [Nat.pow_succ]⟩, ← ih n]
    rw [e, e2]
theorem be_at (w n : Nat) : ∀ j, j < w → (be w n)[j]? = some (UInt8.ofNat (n / 256 ^ (w - 1 - j) % 256)) := by
  induction w with
  | zero => intro j hj; omega
  | succ w ih =>
    intro j hj
    rw [be_succ]
    cases j with
    | zero => simp
    | succ j => rw [List.getElem?_cons_succ, ih j (by omega), show w + 1 - 1 - (j + 1) = w - 1 - j by omega]
theorem be_take (w n k : Nat) (hk : k < w) : (be w n).take (w - k) = (be w n).take (w - (k + 1)) ++ [UInt8.ofNat (n / 256 ^ k % 256)] := by
  have h := be_at w n (w - (k + 1)) (by omega)
  rw [show w - 1 - (w - (k + 1)) = k by omega] at h
  obtain ⟨h1, h2⟩ := List.getElem?_eq_some_iff.1 h
  rw [show w - k = w - (k + 1) + 1 by omega, List.take_succ_eq_append_getElem h1, h2]

/-- the number that is written for one of 32 bits -/
theorem put4 (n : Int) (h1 : -2147483648 ≤ n) (h2 : n < 2147483648) : ∃ W : Nat, bits .xor .u64 (IntKind.u64.wrap n) 2147483648 = (W : Int) ∧ W < 18446744073709551616 ∧ be 4 W = be 4 (n + 2147483648).toNat := by
  rw [IntKind.wrap_u64]
  obtain ⟨x, hx⟩ := Int.eq_ofNat_of_zero_le (a := n % 18446744073709551616) (by omega)
  rw [hx]
  refine ⟨x ^^^ 2147483648, bits_xor_u64_nat x 2147483648 (by omega) (by omega), Nat.xor_lt_two_pow (n := 64) (by omega) (by omega), ?_⟩
  rw [be_mod 4 (x ^^^ 2147483648)]
  have e : (x ^^^ 2147483648) % 256 ^ 4 = (n + 2147483648).toNat := by
    show (x ^^^ 2147483648) % 2 ^ 32 = _
    rw [Nat.xor_mod_two_pow]
    show x % 2 ^ 32 ^^^ 2 ^ 31 = _
    rw [xor_top 31 _ (Nat.mod_lt _ (by omega))]
    simp only [Nat.reducePow, Nat.reduceAdd]
    omega
  rw [e]
/-- the number that is written for one of 64 bits -/
theorem put8 (n : Int) (h1 : -9223372036854775808 ≤ n) (h2 : n < 9223372036854775808) : ∃ W : Nat, bits .xor .u64 (IntKind.u64.wrap n) 9223372036854775808 = (W : Int) ∧ W < 18446744073709551616 ∧ be 8 W = be 8 (n + 9223372036854775808).toNat := by
  rw [IntKind.wrap_u64]
  obtain ⟨x, hx⟩ := Int.eq_ofNat_of_zero_le (a := n % 18446744073709551616) (by omega)
  rw [hx]
  refine ⟨x ^^^ 9223372036854775808, bits_xor_u64_nat x 9223372036854775808 (by omega) (by omega), Nat.xor_lt_two_pow (n := 64) (by omega) (by omega), ?_⟩
  have e : x ^^^ 9223372036854775808 = (n + 9223372036854775808).toNat := by
    show x ^^^ 2 ^ 63 = _
    rw [xor_top 63 _ (by simp only [Nat.reducePow, Nat.reduceAdd]; omega)]
    simp only [Nat.reducePow, Nat.reduceAdd]
    omega
  rw [e]

theorem unbe_snoc (l : List UInt8) (c : UInt8) : unbe (l ++ [c]) = unbe l * 256 + c.toNat := by
  unfold unbe
  rw [List.reverse_append]
  show unle (c :: l.reverse) = _
  rw [unle]; omega
theorem unbe_take {l : List UInt8} {k : Nat} {c : UInt8} (h : l[k]? = some c) : unbe (l.take (k + 1)) = unbe (l.take k) * 256 + c.toNat := by
  obtain ⟨h1, rfl⟩ := List.getElem?_eq_some_iff.1 h
  rw [List.take_succ_eq_append_getElem h1, unbe_snoc]
theorem unbe_lt (l : List UInt8) : unbe l < 256 ^ l.length := by
  have := unle_lt l.reverse
  rw [List.length_reverse] at this; exact this
/-- one byte more, the most significant one first, as the program puts it -/
theorem or_low (x c : Nat) (hc : c < 256) (hx : x < 72057594037927936) : bits BinOp.or IntKind.u64 (IntKind.u64.wrap ((x : Int) * 256)) (c : Int) = ((x * 256 + c : Nat) : Int) := by
  rw [IntKind.wrap_u64, show ((x : Int) * 256) % 18446744073709551616 = ((x * 256 : Nat) : Int) by omega, u64_or_nat _ _ (by omega) (by omega), nat_join 8 _ _ (by omega) (by simpa using hc)]
theorem get4 (x : Nat) (h : x < 4294967296) : IntKind.i32.wrap ((x ^^^ 2147483648 : Nat) : Int) = (x : Int) - 2147483648 := by
  have e := xor_top 31 x h
  simp only [Nat.reducePow, Nat.reduceAdd] at e
  rw [e]
  simp [IntKind.wrap, IntKind.bits, IntKind.signed]; omega
theorem get8 (x : Nat) (h : x < 18446744073709551616) : IntKind.i64.wrap ((x ^^^ 9223372036854775808 : Nat) : Int) = (x : Int) - 9223372036854775808 := by
  have e := xor_top 63 x h
  simp only [Nat.reducePow, Nat.reduceAdd] at e
  rw [e, wrap_i64_eq]
  omega
end Go.Proofs.YtbbdmphclnnejaaDoor
