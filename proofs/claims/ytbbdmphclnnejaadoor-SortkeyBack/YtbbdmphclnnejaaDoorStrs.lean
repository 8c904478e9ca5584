/-
  Strings and the lists of their bytes; one byte made into a string.
-/
import Derived.Test.YtbbdmphclnnejaaDoorBytes
import Derived.Test.YtbbdmphclnnejaaDoorLongMath
namespace Go.Proofs.YtbbdmphclnnejaaDoor
open Go.RowKit

/-- one byte, built as a slice, made into a string -/
theorem run_string_one (w : World) (b : Nat) (cap : Nat) (z : Int) (c : UInt8) (hz : z = (c.toNat : Int)) (hc : w.cell? ⟨b, 0, none⟩ = some (.int .u8 z)) :
    (convert 48 9 (.slice (some ⟨b, 0, none⟩) 1 cap)).run Tryd.prog w = .ok (.string ⟨#[c]⟩) w := by
  subst hz
  refine run_convert_bytes_back w 48 9 5 ⟨b, 0, none⟩ cap [c] Tryd.underlying48 Tryd.underlying5 Tryd.underlying9 fun j hj => ?_
  match j, hj with
  | 0, _ => simpa [Addr.add] using hc
theorem str_append (a b : List UInt8) : (⟨a.toArray⟩ : ByteArray) ++ ⟨b.toArray⟩ = ⟨(a ++ b).toArray⟩ := by
  apply ByteArray.ext; simp [ByteArray.data_append]
theorem ba_size (l : List UInt8) : (⟨l.toArray⟩ : ByteArray).size = l.length := by show l.toArray.size = _; rw [List.size_toArray]
theorem str_bs (s : ByteArray) (l : List UInt8) : s ++ ⟨l.toArray⟩ = ⟨(bs s ++ l).toArray⟩ := by
  apply ByteArray.ext; simp [ByteArray.data_append, bs]
theorem bs_append (a b : ByteArray) : bs (a ++ b) = bs a ++ bs b := by simp [bs, ByteArray.data_append]
theorem bs_eq {a b : ByteArray} (h : bs a = bs b) : a = b := by
  cases a; cases b
  simp [bs] at h
  exact congrArg ByteArray.mk h
theorem bs_extract (s : ByteArray) (i j : Nat) : bs (s.extract i j) = ((bs s).take j).drop i := by
  simp [bs, List.extract_eq_take_drop, List.drop_take]
def strSize : Value → Nat
  | .string s => s.size
  | _ => 0
theorem ne_empty (r : ByteArray) (h : 0 < r.size) : (r.toList == []) = false := by
  rw [ByteArray.toList_eq]
  have h1 := bs_length r
  show (bs r == []) = false
  cases hb : bs r with
  | nil => rw [hb] at h1; simp at h1; omega
  | cons a t => rfl
theorem is_empty (r : ByteArray) (h : r.size = 0) : r = ⟨#[]⟩ := bs_eq (List.eq_nil_of_length_eq_zero (by rw [bs_length]; exact h))
theorem bs_rest (r : ByteArray) (k : Nat) : bs (r.extract k r.size) = (bs r).drop k := by
  rw [bs_extract, List.take_of_length_le (by rw [bs_length]; omega)]
theorem bs_front (r : ByteArray) (k : Nat) : bs (r.extract 0 k) = (bs r).take k := by
  rw [bs_extract, List.drop_zero]
theorem bs_cons (s : ByteArray) (h : 0 < s.size) : ∃ t, bs s = s[0] :: t ∧ t.length + 1 = s.size ∧ ∀ i (hi : i + 1 < s.size), t[i]? = some s[i + 1] := by
  have h0 := bs_at s 0 h
  have hl := bs_length s
  have ha := fun i hi => bs_at s (i + 1) hi
  cases hs : bs s with
  | nil => rw [hs] at hl; simp at hl; omega
  | cons a t =>
    rw [hs] at h0 hl
    simp at h0
    refine ⟨t, by rw [h0], by simpa using hl, fun i hi => ?_⟩
    have := ha i hi
    rw [hs] at this
    simpa using this
end Go.Proofs.YtbbdmphclnnejaaDoor
