/-
  Contract of utf.Put.
-/
import Derived.Test.YtbbdmphclnnejaaDoorUtfNumC
namespace Go.Proofs.YtbbdmphclnnejaaDoor
open Go.RowKit

theorem enc_at (n j : Nat) (h1 : 1 ≤ j) (h2 : j < esz n) : (enc n)[j]? = some (by8 (128 + n / 64 ^ (esz n - 1 - j) % 64)) := by
  unfold esz at h2 ⊢
  unfold enc
  split
  · rename_i h; rw [if_pos h] at h2; omega
  rename_i h; rw [if_neg h] at h2
  split
  · rename_i h'; rw [if_pos h'] at h2
    obtain rfl : j = 1 := by omega
    simp
  rename_i h'; rw [if_neg h'] at h2
  split
  · rename_i h''; rw [if_pos h''] at h2
    rcases (show j = 1 ∨ j = 2 by omega) with rfl | rfl
    · simp
    · simp
  rename_i h''; rw [if_neg h''] at h2
  rcases (show j = 1 ∨ j = 2 ∨ j = 3 by omega) with rfl | rfl | rfl
  · simp
  · simp
  · simp
theorem enc_first (n : Nat) : (enc n)[0]? = some (by8 (mark (esz n) + n / 64 ^ (esz n - 1))) := by
  unfold enc esz
  split
  · simp [mark]
  split
  · simp [mark]
  split
  · simp [mark]
  · simp [mark]
theorem first_lt (n : Nat) (h : n ≤ 1114111) : mark (esz n) + n / 64 ^ (esz n - 1) < 256 := by
  unfold esz
  split
  · simp [mark]; omega
  split
  · simp [mark]; omega
  split
  · simp [mark]; omega
  · simp [mark]; omega
/-- the encoding from byte j on, noughts before -/
def part (n j : Nat) : List UInt8 := List.replicate (j + 1) 0 ++ (enc n).drop (j + 1)
theorem part_length (n j : Nat) (h : j < esz n) : (part n j).length = esz n := by
  rw [part, List.length_append, List.length_replicate, List.length_drop, enc_length]; omega
theorem part_start (n : Nat) : part n (esz n - 1) = List.replicate (esz n) 0 := by
  have := esz_pos n
  rw [part, show esz n - 1 + 1 = esz n by omega, List.drop_of_length_le (by rw [enc_length]; omega), List.append_nil]
theorem part_at (n j : Nat) : (part n j)[j]? = some 0 := by
  rw [part, List.getElem?_append_left (by rw [List.length_replicate]; omega), List.getElem?_replicate, if_pos (by omega)]
theorem part_set (n j : Nat) (c : UInt8) (hj : j < esz n) (h : (enc n)[j]? = some c) : (part n j).set j c = List.replicate j 0 ++ (enc n).drop j := by
  have hl : j < (enc n).length := by rw [enc_length]; exact hj
  have e : (enc n).drop j = c :: (enc n).drop (j + 1) := by
    rw [List.drop_eq_getElem_cons hl]
    congr 1
    rw [List.getElem?_eq_getElem hl] at h
    exact Option.some.inj h
  rw [part, e, List.replicate_succ', List.append_assoc, List.set_append_right _ _ (by simp)]
  simp
theorem part_next (n j : Nat) (h1 : 1 ≤ j) (h2 : j < esz n) : (part n j).set j (by8 (128 + n / 64 ^ (esz n - 1 - j) % 64)) = part n (j - 1) := by
  rw [part_set n j _ h2 (enc_at n j h1 h2), part, show j - 1 + 1 = j by omega]
theorem part_done (n : Nat) : (part n 0).set 0 (by8 (mark (esz n) + n / 64 ^ (esz n - 1))) = enc n := by
  rw [part_set n 0 _ (esz_pos n) (enc_first n)]; simp

end Go.Proofs.YtbbdmphclnnejaaDoor
