/-
  Numbers as so many bytes, the lowest first, plainly. It speaks of no program.
-/
import Derived.Test.YtbbdmphclnnejaaDoorLongMath
namespace Go.Proofs.YtbbdmphclnnejaaDoor
open Go.RowKit

/-- k bytes of n -/
def le : Nat → Nat → List UInt8
  | 0, _ => []
  | k + 1, n => UInt8.ofNat (n % 256) :: le k (n / 256)
/-- the number of bytes -/
def unle : List UInt8 → Nat
  | [] => 0
  | c :: r => c.toNat + 256 * unle r
/-- the number of just k bytes, and the error -/
def get (l : List UInt8) (k : Nat) : Nat × Nat := if l.length < k then (0, 4) else if k < l.length then (0, 6) else (unle l, 0)

theorem le_length : ∀ k n, (le k n).length = k
  | 0, _ => rfl
  | k + 1, n => by simp [le, le_length k]
theorem le_snoc : ∀ k n, le (k + 1) n = le k n ++ [UInt8.ofNat (n / 256 ^ k % 256)]
  | 0, n => by simp [le]
  | k + 1, n => by
    rw [le, le_snoc k (n / 256), le, List.cons_append, Nat.div_div_eq_div_mul, Nat.pow_succ, Nat.mul_comm 256]
theorem unle_le : ∀ k n, n < 256 ^ k → unle (le k n) = n
  | 0, n, h => by simp at h; simp [le, unle, h]
  | k + 1, n, h => by
    have h2 : n / 256 < 256 ^ k := by rw [Nat.div_lt_iff_lt_mul (by omega)]; rw [Nat.pow_succ] at h; exact h
    rw [le, unle, unle_le k (n / 256) h2, UInt8.toNat_ofNat']
    omega
theorem le_unle : ∀ l : List UInt8, le l.length (unle l) = l
  | [] => rfl
  | c :: r => by
    have hc := c.toNat_lt
    rw [List.length_cons, le, unle, show (c.toNat + 256 * unle r) / 256 = unle r by omega, le_unle r, show (c.toNat + 256 * unle r) % 256 = c.toNat by omega]
    simp
theorem unle_lt : ∀ l : List UInt8, unle l < 256 ^ l.length
  | [] => by simp [unle]
  | c :: r => by
    have hc := c.toNat_lt
    have := unle_lt r
    rw [unle, List.length_cons, Nat.pow_succ]; omega
theorem unle_snoc : ∀ (l : List UInt8) (c : UInt8), unle (l ++ [c]) = unle l + c.toNat * 256 ^ l.length
  | [], c => by simp [unle]
  | d :: l, c => by
    simp only [List.cons_append, unle, unle_snoc l c, List.length_cons, Nat.pow_succ, Nat.mul_add]
    rw [Nat.add_assoc, ← Nat.mul_assoc, Nat.mul_comm 256 c.toNat, Nat.mul_assoc, Nat.mul_comm 256 (256 ^ l.length)]
theorem unle_drop {l : List UInt8} {k : Nat} {c : UInt8} (h : l[k]? = some c) : unle (l.drop k) = c.toNat + 256 * unle (l.drop (k + 1)) := by
  obtain ⟨hk, rfl⟩ := List.getElem?_eq_some_iff.1 h
  rw [List.drop_eq_getElem_cons hk, unle]
theorem unle_take {l : List UInt8} {k : Nat} {c : UInt8} (h : l[k]? = some c) : unle (l.take (k + 1)) = unle (l.take k) + c.toNat * 256 ^ k := by
  obtain ⟨hk, _⟩ := List.getElem?_eq_some_iff.1 h
  rw [take_at h, unle_snoc, List.length_take, Nat.min_eq_left (by omega)]
theorem unle_take_lt {l : List UInt8} {k : Nat} (hk : k ≤ l.length) : unle (l.take k) < 256 ^ k := by
  have := unle_lt (l.take k)
  rw [List.length_take, Nat.min_eq_left hk] at this
  exact this
theorem unle_drop_le (l : List UInt8) (k : Nat) : unle (l.drop k) ≤ unle l := by
  induction k generalizing l with
  | zero => simp
  | succ k ih =>
    cases l with
    | nil => simp
    | cons c r => rw [List.drop_succ_cons, unle]; have := ih r; omega

theorem pow8 (k : Nat) : 2 ^ (8 * k) = 256 ^ k := by rw [Nat.pow_mul]
theorem pow8i (k : Nat) : (2 : Int) ^ (8 * k) = ((256 ^ k : Nat) : Int) := by rw [← pow8, Int.natCast_pow]; rfl
/-- one byte more, as the program puts it -/
theorem or_step (x c k : Nat) (hc : c < 256) (hk : k ≤ 7) (hx : x < 256 ^ k) :
    bits BinOp.or IntKind.u64 (x : Int) (IntKind.u64.wrap ((c : Int) * 2 ^ (8 * k))) = ((x + c * 256 ^ k : Nat) : Int) := by
  have h1 : (256 : Nat) ^ k ≤ 256 ^ 7 := Nat.pow_le_pow_right (by omega) hk
  have h2 : c * 256 ^ k ≤ 255 * 256 ^ 7 := Nat.mul_le_mul (by omega) h1
  simp at h1 h2
  have e4 : (c : Int) * ((256 ^ k : Nat) : Int) = ((c * 256 ^ k : Nat) : Int) := (Int.natCast_mul _ _).symm
  have e5 : IntKind.u64.wrap ((c * 256 ^ k : Nat) : Int) = ((c * 256 ^ k : Nat) : Int) := by rw [IntKind.wrap_u64]; omega
  rw [pow8i, e4, e5, u64_or_nat _ _ (by omega) (by omega), Nat.or_comm, nat_join (8 * k) _ _ (by rw [pow8]; exact Nat.mul_mod_left _ _) (by rw [pow8]; exact hx), Nat.add_comm]
/-- one byte, as the program cuts it off -/
theorem shr_byte (n k : Nat) : ((n : Int) / 2 ^ (8 * k)) % 256 = ((UInt8.ofNat (n / 256 ^ k % 256)).toNat : Int) := by
  rw [pow8i, UInt8.toNat_ofNat', ← Int.natCast_ediv]; omega
theorem le_part (size k n : Nat) (h : k < size) : (le k n ++ List.replicate (size - k) 0).set k (UInt8.ofNat (n / 256 ^ k % 256)) = le (k + 1) n ++ List.replicate (size - (k + 1)) 0 := by
  obtain ⟨m, hm⟩ : ∃ m, size - k = m + 1 := ⟨size - k - 1, by omega⟩
  rw [hm, List.replicate_succ, List.set_append_right _ _ (by rw [le_length]; omega), le_length, Nat.sub_self, List.set_cons_zero, le_snoc, List.append_assoc, show size - (k + 1) = m by omega]
  rfl
end Go.Proofs.YtbbdmphclnnejaaDoor
