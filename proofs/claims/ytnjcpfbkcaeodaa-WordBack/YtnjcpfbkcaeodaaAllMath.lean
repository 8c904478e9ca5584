/-
  All numbers that bytes are, plainly. It speaks of no program.
-/
import Derived.Test.YtnjcpfbkcaeodaaLongMath
namespace Go.Proofs.Ytnjcpfbkcaeodaa
open Go.RowKit

/-- the numbers, and the error; with an error there are none -/
def allF : Nat → List UInt8 → List Nat × Nat
  | 0, _ => ([], 0)
  | f + 1, l => if l = [] then ([], 0) else if (long l).2.2 ≠ 0 then ([], (long l).2.2) else
      if (allF f (l.drop (long l).2.1)).2 ≠ 0 then ([], (allF f (l.drop (long l).2.1)).2) else ((long l).1 :: (allF f (l.drop (long l).2.1)).1, 0)
def all (l : List UInt8) : List Nat × Nat := allF l.length l

theorem allF_eq : ∀ (f g : Nat) (l : List UInt8), l.length ≤ f → l.length ≤ g → allF f l = allF g l
  | 0, 0, _, _, _ => rfl
  | 0, g + 1, l, h, _ => by
    obtain rfl : l = [] := List.eq_nil_of_length_eq_zero (by omega)
    simp [allF]
  | f + 1, 0, l, _, h => by
    obtain rfl : l = [] := List.eq_nil_of_length_eq_zero (by omega)
    simp [allF]
  | f + 1, g + 1, l, h1, h2 => by
    rw [allF, allF]
    by_cases h : l = []
    · rw [if_pos h, if_pos h]
    · rw [if_neg h, if_neg h]
      by_cases he : (long l).2.2 ≠ 0
      · rw [if_pos he, if_pos he]
      · have hp := long_pos l (by omega)
        have hs := long_size l
        rw [if_neg he, if_neg he, allF_eq f g (l.drop (long l).2.1) (by simp; omega) (by simp; omega)]

theorem all_nil : all [] = ([], 0) := rfl
theorem all_err (l : List UInt8) (h : l ≠ []) (he : (long l).2.2 ≠ 0) : all l = ([], (long l).2.2) := by
  unfold all
  have : 0 < l.length := List.length_pos_iff.2 h
  rw [allF_eq l.length (l.length - 1 + 1) l (by omega) (by omega), allF, if_neg h, if_pos he]
theorem all_step (l : List UInt8) (h : l ≠ []) (he : (long l).2.2 = 0) :
    all l = if (all (l.drop (long l).2.1)).2 ≠ 0 then ([], (all (l.drop (long l).2.1)).2) else ((long l).1 :: (all (l.drop (long l).2.1)).1, 0) := by
  have hp := long_pos l he
  have hs := long_size l
  have : 0 < l.length := List.length_pos_iff.2 h
  conv => lhs; unfold all
  rw [allF_eq l.length (l.length - 1 + 1) l (by omega) (by omega), allF, if_neg h, if_neg (by simp [he])]
  unfold all
  rw [allF_eq (l.length - 1) (l.drop (long l).2.1).length (l.drop (long l).2.1) (by simp; omega) (by simp)]

/-- numbers read already, and what is read of the rest -/
def comb (acc : List Nat) (r : List Nat × Nat) : List Nat × Nat := if r.2 ≠ 0 then ([], r.2) else (acc ++ r.1, 0)
theorem comb_nil (r : List Nat × Nat) (h : r.2 ≠ 0 → r.1 = []) : comb [] r = r := by
  unfold comb
  split
  · rename_i h1; rw [← h h1]
  · rename_i h1; simp at h1; rw [← h1]; rfl
theorem all_none (l : List UInt8) (h : (all l).2 ≠ 0) : (all l).1 = [] := by
  by_cases hl : l = []
  · subst hl; rfl
  · by_cases he : (long l).2.2 = 0
    · rw [all_step l hl he] at h ⊢
      split
      · rfl
      · rename_i h1; rw [if_neg h1] at h; simp at h
    · rw [all_err l hl he]
theorem comb_step (acc : List Nat) (l : List UInt8) (h : l ≠ []) (he : (long l).2.2 = 0) : comb acc (all l) = comb (acc ++ [(long l).1]) (all (l.drop (long l).2.1)) := by
  rw [all_step l h he]
  unfold comb
  by_cases h1 : (all (l.drop (long l).2.1)).2 ≠ 0
  · simp [h1]
  · simp [h1]
theorem comb_err (acc : List Nat) (l : List UInt8) (h : l ≠ []) (he : (long l).2.2 ≠ 0) : comb acc (all l) = ([], (long l).2.2) := by
  rw [all_err l h he]; simp [comb, he]
theorem comb_end (acc : List Nat) : comb acc (all []) = (acc, 0) := by simp [all_nil, comb]
theorem all_lt (l : List UInt8) : ∀ f, l.length ≤ f → ∀ n ∈ (all l).1, n < 18446744073709551616 := by
  intro f
  induction f generalizing l with
  | zero => intro h; obtain rfl : l = [] := List.eq_nil_of_length_eq_zero (by omega)
            simp [all_nil]
  | succ f ih =>
    intro hf n hn
    by_cases hl : l = []
    · subst hl; simp [all_nil] at hn
    · by_cases he : (long l).2.2 = 0
      · rw [all_step l hl he] at hn
        split at hn
        · simp at hn
        · simp at hn
          rcases hn with rfl | hn
          · exact long_lt l
          · have hp := long_pos l he
            exact ih (l.drop (long l).2.1) (by simp; omega) n hn
      · rw [all_err l hl he] at hn; simp at hn
end Go.Proofs.Ytnjcpfbkcaeodaa
