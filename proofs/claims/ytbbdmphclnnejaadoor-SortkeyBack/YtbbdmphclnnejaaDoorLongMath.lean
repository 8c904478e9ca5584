/-
  The number that bytes begin with, and all numbers that they are, plainly. It speaks of no program.
-/
import Derived.Test.YtbbdmphclnnejaaDoorVarMath
namespace Go.Proofs.YtbbdmphclnnejaaDoor
open Go.RowKit

/-- how many bytes of at least 128 stand at the beginning -/
def lead : List UInt8 → Nat
  | [] => 0
  | c :: r => if c.toNat < 128 then 0 else lead r + 1
/-- the number of the digits, the lowest first -/
def digs : List UInt8 → Nat
  | [] => 0
  | c :: r => c.toNat % 128 + 128 * digs r
/-- may the byte c end a number at place m? -/
def lastOk (m : Nat) (c : Nat) : Bool := !((decide (0 < m) && c == 0) || (m == 9 && decide (1 < c)))
/-- the number, its size, the error -/
def long (l : List UInt8) : Nat × Nat × Nat :=
  if lead l < l.length ∧ lead l < 10 then
    if lastOk (lead l) (l.getD (lead l) 0).toNat then (digs (l.take (lead l + 1)), lead l + 1, 0) else (0, 0, 5)
  else if l.length < 10 then (0, 0, 4) else (0, 0, 5)

theorem lead_le : ∀ l : List UInt8, lead l ≤ l.length
  | [] => by simp [lead]
  | c :: r => by
    have := lead_le r
    unfold lead; split <;> simp <;> omega
theorem lead_eq : ∀ (l : List UInt8) (k : Nat) (hk : k < l.length), (∀ j (hj : j < k), 128 ≤ (l[j]'(by omega)).toNat) → l[k].toNat < 128 → lead l = k
  | [], k, hk, _, _ => by simp at hk
  | c :: r, 0, hk, _, h => by simp at h; simp [lead, h]
  | c :: r, k + 1, hk, h1, h => by
    have hc := h1 0 (by omega)
    simp at hc
    unfold lead
    rw [if_neg (by omega), lead_eq r k (by simpa using hk) (fun j hj => by have := h1 (j + 1) (by omega); simpa using this) (by simpa using h)]
theorem lead_ge : ∀ (l : List UInt8) (k : Nat) (hk : k ≤ l.length), (∀ j (hj : j < k), 128 ≤ (l[j]'(by omega)).toNat) → k ≤ lead l
  | _, 0, _, _ => by omega
  | [], k + 1, hk, _ => by simp at hk
  | c :: r, k + 1, hk, h1 => by
    have hc := h1 0 (by omega)
    simp at hc
    unfold lead
    rw [if_neg (by omega)]
    have := lead_ge r k (by simpa using hk) (fun j hj => by have := h1 (j + 1) (by omega); simpa using this)
    omega

theorem digs_snoc : ∀ (l : List UInt8) (c : UInt8), digs (l ++ [c]) = digs l + c.toNat % 128 * 128 ^ l.length
  | [], c => by simp [digs]
  | d :: l, c => by
    simp only [List.cons_append, digs, digs_snoc l c, List.length_cons, Nat.pow_succ, Nat.mul_add]
    rw [Nat.add_assoc, ← Nat.mul_assoc, Nat.mul_comm 128 (c.toNat % 128), Nat.mul_assoc, Nat.mul_comm 128 (128 ^ l.length)]
theorem digs_lt : ∀ l : List UInt8, digs l < 128 ^ l.length
  | [] => by simp [digs]
  | c :: l => by
    have := digs_lt l
    simp only [digs, List.length_cons, Nat.pow_succ]
    omega

/-- where the loop finds the last byte -/
theorem long_hit (l : List UInt8) (k : Nat) (hk : k < l.length) (h10 : k < 10) (h1 : ∀ j (hj : j < k), 128 ≤ (l[j]'(by omega)).toNat) (h2 : l[k].toNat < 128) :
    long l = if lastOk k l[k].toNat then (digs (l.take (k + 1)), k + 1, 0) else (0, 0, 5) := by
  have e := lead_eq l k hk h1 h2
  unfold long
  rw [e, if_pos ⟨hk, h10⟩, List.getD_eq_getElem?_getD, List.getElem?_eq_getElem hk, Option.getD_some]
/-- where it finds none -/
theorem long_miss (l : List UInt8) (k : Nat) (hk : k ≤ l.length) (h1 : ∀ j (hj : j < k), 128 ≤ (l[j]'(by omega)).toNat) (h2 : k = l.length ∨ k = 10) :
    long l = if l.length < 10 then (0, 0, 4) else (0, 0, 5) := by
  have := lead_ge l k hk h1
  have := lead_le l
  unfold long
  rw [if_neg (by omega)]

theorem long_size (l : List UInt8) : (long l).2.1 ≤ l.length := by
  unfold long; split
  · split <;> simp; omega
  · split <;> simp
theorem long_pos (l : List UInt8) (h : (long l).2.2 = 0) : 0 < (long l).2.1 := by
  unfold long at h ⊢; split at h
  · split at h
    · rename_i h1 h2; rw [if_pos h1, if_pos h2]; simp
    · simp at h
  · split at h <;> simp at h
theorem long_ten (l : List UInt8) : (long l).2.1 ≤ 10 := by
  unfold long; split
  · split <;> simp; omega
  · split <;> simp
theorem long_lt (l : List UInt8) : (long l).1 < 18446744073709551616 := by
  unfold long; split
  · rename_i h
    split
    · rename_i h2
      show digs _ < _
      have hd := digs_lt (l.take (lead l + 1))
      have e : (l.take (lead l + 1)).length = lead l + 1 := by simp; omega
      by_cases h9 : lead l = 9
      · have h10 : l.take (lead l + 1) = l.take (lead l) ++ [l[lead l]] := List.take_succ_eq_append_getElem h.1
        rw [h10, digs_snoc]
        have hd' := digs_lt (l.take (lead l))
        have e' : (l.take (lead l)).length = 9 := by simp; omega
        rw [e'] at hd' ⊢
        have hc : l[lead l].toNat ≤ 1 := by
          rw [List.getD_eq_getElem?_getD, List.getElem?_eq_getElem h.1, Option.getD_some] at h2
          simp [lastOk, h9] at h2
          simp only [h9]; omega
        have : l[lead l].toNat % 128 * 128 ^ 9 ≤ 1 * 128 ^ 9 := Nat.mul_le_mul_right _ (by omega)
        simp at this hd'
        omega
      · rw [e] at hd
        have : (128 : Nat) ^ (lead l + 1) ≤ 128 ^ 9 := Nat.pow_le_pow_right (by omega) (by omega)
        simp at this
        omega
    · simp
  · split <;> simp

/-- a string's bytes -/
def bs (s : ByteArray) : List UInt8 := s.data.toList
theorem bs_mk (l : List UInt8) : bs ⟨l.toArray⟩ = l := rfl
theorem bs_length (s : ByteArray) : (bs s).length = s.size := by unfold bs; rw [Array.length_toList]; rfl
theorem bs_get (s : ByteArray) (k : Nat) (h : k < s.size) : (bs s)[k]'(by rw [bs_length]; exact h) = s[k] := by unfold bs; rw [Array.getElem_toList]; rfl
theorem mk_bs (s : ByteArray) : (⟨(bs s).toArray⟩ : ByteArray) = s := rfl

theorem pow7 (k : Nat) : 2 ^ (7 * k) = 128 ^ k := by rw [Nat.pow_mul]
/-- one digit more, as the program puts it -/
theorem acc_step (x c k : Nat) (hc : c < 256) (hk : k ≤ 9) (hx : x < 128 ^ k) (hs : c % 128 * 128 ^ k < 18446744073709551616) :
    bits BinOp.or IntKind.u64 (x : Int) (IntKind.u64.wrap (IntKind.u64.wrap (bits BinOp.andNot IntKind.u8 (c : Int) 128) * 2 ^ (7 * k))) = ((x + c % 128 * 128 ^ k : Nat) : Int) := by
  have e1 : bits BinOp.andNot IntKind.u8 (c : Int) 128 = ((c % 128 : Nat) : Int) := by
    have := u8_andNot_nat c 128 hc (by omega)
    rw [nat_mask7] at this; exact this
  have hx2 : x < 18446744073709551616 := by
    have : (128 : Nat) ^ k ≤ 128 ^ 9 := Nat.pow_le_pow_right (by omega) hk
    simp at this; omega
  have e2 : IntKind.u64.wrap ((c % 128 : Nat) : Int) = ((c % 128 : Nat) : Int) := by rw [IntKind.wrap_u64]; omega
  have e3 : (2 : Int) ^ (7 * k) = ((128 ^ k : Nat) : Int) := by rw [← pow7, Int.natCast_pow]; rfl
  have e4 : ((c % 128 : Nat) : Int) * ((128 ^ k : Nat) : Int) = ((c % 128 * 128 ^ k : Nat) : Int) := (Int.natCast_mul _ _).symm
  rw [e1, e2, e3, e4]
  have e5 : IntKind.u64.wrap ((c % 128 * 128 ^ k : Nat) : Int) = ((c % 128 * 128 ^ k : Nat) : Int) := by rw [IntKind.wrap_u64]; omega
  rw [e5, u64_or_nat _ _ hx2 hs, Nat.or_comm, nat_join (7 * k) _ _ (by rw [pow7]; exact Nat.mul_mod_left _ _) (by rw [pow7]; exact hx), Nat.add_comm]
theorem bs_at (s : ByteArray) (k : Nat) (h : k < s.size) : (bs s)[k]? = some s[k] := by
  have h' : k < (bs s).length := by rw [bs_length]; exact h
  rw [List.getElem?_eq_getElem h', bs_get s k h]
theorem take_at {l : List UInt8} {k : Nat} {c : UInt8} (h : l[k]? = some c) : l.take (k + 1) = l.take k ++ [c] := by
  obtain ⟨hk, rfl⟩ := List.getElem?_eq_some_iff.1 h
  exact List.take_succ_eq_append_getElem hk
theorem digs_at {l : List UInt8} {k : Nat} {c : UInt8} (h : l[k]? = some c) : digs (l.take (k + 1)) = digs (l.take k) + c.toNat % 128 * 128 ^ k := by
  obtain ⟨hk, _⟩ := List.getElem?_eq_some_iff.1 h
  rw [take_at h, digs_snoc, List.length_take, Nat.min_eq_left (by omega)]
theorem digs_take_lt {l : List UInt8} {k : Nat} (hk : k ≤ l.length) : digs (l.take k) < 128 ^ k := by
  have := digs_lt (l.take k)
  rw [List.length_take, Nat.min_eq_left hk] at this
  exact this
/-- where the loop finds the last byte, by that byte -/
theorem long_at {l : List UInt8} {k : Nat} {c : UInt8} (h : l[k]? = some c) (h10 : k < 10) (h1 : ∀ j d, j < k → l[j]? = some d → 128 ≤ d.toNat) (h2 : c.toNat < 128) :
    long l = if lastOk k c.toNat then (digs (l.take k) + c.toNat % 128 * 128 ^ k, k + 1, 0) else (0, 0, 5) := by
  rw [← digs_at h]
  obtain ⟨hk, rfl⟩ := List.getElem?_eq_some_iff.1 h
  exact long_hit l k hk h10 (fun j hj => h1 j _ hj (List.getElem?_eq_getElem (by omega))) h2
theorem long_none {l : List UInt8} {k : Nat} (hk : k ≤ l.length) (h1 : ∀ j d, j < k → l[j]? = some d → 128 ≤ d.toNat) (h2 : k = l.length ∨ k = 10) :
    long l = if l.length < 10 then (0, 0, 4) else (0, 0, 5) :=
  long_miss l k hk (fun j hj => h1 j _ hj (List.getElem?_eq_getElem (by omega))) h2
theorem leads_more {l : List UInt8} {k : Nat} {c : UInt8} (h1 : ∀ j d, j < k → l[j]? = some d → 128 ≤ d.toNat) (h : l[k]? = some c) (hc : 128 ≤ c.toNat) :
    ∀ j d, j < k + 1 → l[j]? = some d → 128 ≤ d.toNat := fun j d hj hd => by
  by_cases e : j = k
  · subst e; rw [h] at hd; injection hd with hd; subst hd; exact hc
  · exact h1 j d (by omega) hd

theorem digit_fits (c k : Nat) (_ : c < 256) (hk : k ≤ 8) : c % 128 * 128 ^ k < 18446744073709551616 := by
  have h1 : (128 : Nat) ^ k ≤ 128 ^ 8 := Nat.pow_le_pow_right (by omega) hk
  have h2 : c % 128 * 128 ^ k ≤ 127 * 128 ^ 8 := Nat.mul_le_mul (by omega) h1
  simp at h2
  omega
theorem last_fits (c k : Nat) (hc : c < 128) (hk : k ≤ 9) (h : lastOk k c = true) : c % 128 * 128 ^ k < 18446744073709551616 := by
  by_cases h9 : k = 9
  · subst h9
    simp [lastOk] at h
    have h2 : c % 128 * 128 ^ 9 ≤ 1 * 128 ^ 9 := Nat.mul_le_mul_right _ (by omega)
    simp at h2
    omega
  · exact digit_fits c k (by omega) (by omega)
theorem long_err (l : List UInt8) (h : (long l).2.2 ≠ 0) : (long l).1 = 0 ∧ (long l).2.1 = 0 := by
  unfold long at h ⊢
  split
  · rename_i h1
    rw [if_pos h1] at h
    split
    · rename_i h2; rw [if_pos h2] at h; simp at h
    · simp
  · split <;> simp
theorem long_ok (l : List UInt8) (h : (long l).2.2 = 0) : (long l).1 = digs (l.take (long l).2.1) := by
  unfold long at h ⊢
  split
  · rename_i h1
    rw [if_pos h1] at h
    split
    · simp
    · rename_i h2; rw [if_neg h2] at h; simp at h
  · rename_i h1; rw [if_neg h1] at h; split at h <;> simp at h
theorem digs_drop {l : List UInt8} {k : Nat} {c : UInt8} (h : l[k]? = some c) : digs (l.drop k) = c.toNat % 128 + 128 * digs (l.drop (k + 1)) := by
  obtain ⟨hk, rfl⟩ := List.getElem?_eq_some_iff.1 h
  rw [List.drop_eq_getElem_cons hk, digs]
theorem digs_drop_le (l : List UInt8) (k : Nat) : digs (l.drop k) ≤ digs l := by
  induction k generalizing l with
  | zero => simp
  | succ k ih =>
    cases l with
    | nil => simp
    | cons c r => rw [List.drop_succ_cons, digs]; have := ih r; omega
theorem ret3 {a b c a' b' c' : Int} (h1 : a = a') (h2 : b = b') (h3 : c = c') :
    Ending.returned (.tuple #[.int .u64 a, .int .i64 b, .int .i64 c]) = .returned (.tuple #[.int .u64 a', .int .i64 b', .int .i64 c']) := by rw [h1, h2, h3]
end Go.Proofs.YtbbdmphclnnejaaDoor
