/-
  Numbers as bytes, plainly: digits to the base 128, as few as may be; four and eight bytes. It speaks of no program.
-/
import Derived.WalkKit
import Derived.Laws.BitsAllLaws
namespace Go.Proofs.YtbbdmphclnnejaaDoor
open Go.RowKit

/-- the byte of a number's lowest digit where digits follow -/
def hi (n : Nat) : UInt8 := UInt8.ofNat (n % 128 + 128)
def varintF : Nat → Nat → List UInt8
  | 0, n => [UInt8.ofNat n]
  | f + 1, n => if n < 128 then [UInt8.ofNat n] else hi n :: varintF f (n / 128)
def varint (n : Nat) : List UInt8 := varintF n n

theorem varintF_eq : ∀ f g n : Nat, n ≤ f → n ≤ g → varintF f n = varintF g n
  | 0, 0, _, _, _ => rfl
  | 0, g + 1, n, h, _ => by rw [varintF, varintF, if_pos (by omega)]
  | f + 1, 0, n, _, h => by rw [varintF, varintF, if_pos (by omega)]
  | f + 1, g + 1, n, h1, h2 => by
    rw [varintF, varintF]
    by_cases h : n < 128
    · rw [if_pos h, if_pos h]
    · rw [if_neg h, if_neg h, varintF_eq f g (n / 128) (by omega) (by omega)]

theorem varint_small (n : Nat) (h : n < 128) : varint n = [UInt8.ofNat n] := by
  unfold varint
  cases n with
  | zero => rfl
  | succ n => rw [varintF, if_pos h]
theorem varint_step (n : Nat) (h : 128 ≤ n) : varint n = hi n :: varint (n / 128) := by
  unfold varint
  rw [varintF_eq n (n - 1 + 1) n (by omega) (by omega), varintF, if_neg (by omega), varintF_eq (n - 1) (n / 128) (n / 128) (by omega) (by omega)]

theorem varint_len (k : Nat) : ∀ n : Nat, n < 128 ^ (k + 1) → (varint n).length ≤ k + 1 := by
  induction k with
  | zero => intro n h; rw [varint_small n (by simpa using h)]; simp
  | succ k ih =>
    intro n h
    by_cases hn : n < 128
    · rw [varint_small n hn]; simp
    · rw [varint_step n (by omega), List.length_cons]
      have : n / 128 < 128 ^ (k + 1) := by
        rw [Nat.div_lt_iff_lt_mul (by omega)]; rw [Nat.pow_succ] at h; exact h
      have := ih _ this
      omega
theorem varint_ten (n : Nat) (h : n < 18446744073709551616) : (varint n).length ≤ 10 :=
  varint_len 9 n (Nat.lt_of_lt_of_le h (by decide))
theorem varint_pos (n : Nat) : 0 < (varint n).length := by
  by_cases h : n < 128
  · rw [varint_small n h]; simp
  · rw [varint_step n (by omega)]; simp

theorem or128 : ∀ m : Nat, m < 256 → m ||| 128 = m % 128 + 128 := by decide +kernel
theorem byte_or (m : Nat) : bits BinOp.or IntKind.u8 ((m : Int) % 256) 128 = ((hi m).toNat : Int) := by
  unfold hi
  have := u8_or_nat (m % 256) 128 (by omega) (by omega)
  rw [or128 _ (by omega)] at this
  rw [show ((m : Int) % 256) = ((m % 256 : Nat) : Int) by omega]
  rw [show ((128 : Int)) = ((128 : Nat) : Int) from rfl, this, UInt8.toNat_ofNat']
  omega
theorem hi_nat (n : Nat) : (hi n).toNat = n % 128 + 128 := by unfold hi; rw [UInt8.toNat_ofNat']; omega
theorem byte_of (m : Nat) : ((m : Int) % 256) = ((UInt8.ofNat m).toNat : Int) := by
  rw [UInt8.toNat_ofNat']; omega
theorem byte_small (m : Nat) (h : m < 256) : (m : Int) = ((UInt8.ofNat m).toNat : Int) := by
  rw [UInt8.toNat_ofNat']; omega

/-- the short bytes of several numbers -/
def shorts (l : List Nat) : List UInt8 := l.flatMap varint
theorem shorts_nil : shorts [] = [] := rfl
theorem shorts_snoc (l : List Nat) (n : Nat) : shorts (l ++ [n]) = shorts l ++ varint n := by simp [shorts]
theorem shorts_len (l : List Nat) (h : ∀ n ∈ l, n < 18446744073709551616) : (shorts l).length ≤ 10 * l.length := by
  induction l with
  | nil => simp [shorts]
  | cons a l ih =>
    have h1 := varint_ten a (h a (by simp))
    have h2 := ih fun n hn => h n (by simp [hn])
    simp only [shorts, List.flatMap_cons, List.length_append, List.length_cons] at h2 ⊢
    omega
end Go.Proofs.YtbbdmphclnnejaaDoor
