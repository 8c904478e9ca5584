/-
  Strings and the lists of their bytes; one byte made into a string.
-/
import Derived.Test.YtmfaeahpcoonaaaDoorBytes
import Derived.Test.YtmfaeahpcoonaaaDoorLongMath
namespace Go.Proofs.YtmfaeahpcoonaaaDoor
open Go.RowKit

/-- one byte, built as a slice, made into a string -/
theorem run_string_one (w : World) (b : Nat) (cap : Nat) (z : Int) (c : UInt8) (hz : z = (c.toNat : Int)) (hc : w.cell? ⟨b, 0, none⟩ = some (.int .u8 z)) :
    (convert 44 9 (.slice (some ⟨b, 0, none⟩) 1 cap)).run Tryd.prog w = .ok (.string ⟨#[c]⟩) w := by
  subst hz
  refine run_convert_bytes_back w 44 9 5 ⟨b, 0, none⟩ cap [c] Tryd.underlying44 Tryd.underlying5 Tryd.underlying9 fun j hj => ?_
  match j, hj with
  | 0, _ => simpa [Addr.add] using hc
theorem str_append (a b : List UInt8) : (⟨a.toArray⟩ : ByteArray) ++ ⟨b.toArray⟩ = ⟨(a ++ b).toArray⟩ := by
  apply ByteArray.ext; simp [ByteArray.data_append]
theorem ba_size (l : List UInt8) : (⟨l.toArray⟩ : ByteArray).size = l.length := by show l.toArray.size = _; rw [List.size_toArray]
theorem str_bs (s : ByteArray) (l : List UInt8) : s ++ ⟨l.toArray⟩ = ⟨(bs s ++ l).toArray⟩ := by
  apply ByteArray.ext; simp [ByteArray.data_append, bs]
theorem bs_append (a b : ByteArray) : bs (a ++ b) = bs a ++ bs b := by simp [bs, ByteArray.data_append]
theorem bs_eq {a b : ByteArray} (h : bs a = bs b) : a = b := by
  cases a; cases b
  simp [bs] at h
  exact congrArg ByteArray.mk h
theorem bs_extract (s : ByteArray) (i j : Nat) : bs (s.extract i j) = ((bs s).take j).drop i := by
  simp [bs, List.extract_eq_take_drop, List.drop_take]
end Go.Proofs.YtmfaeahpcoonaaaDoor
