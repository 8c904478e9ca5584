/-
  Contracts of word.fixed, unfixed, Put32, Put64, Get32, Get64, and of the document's own Put and Get.
-/
import Derived.Test.YtemdgmiaaehokaaDoorWordShortC
import Derived.Test.YtemdgmiaaehokaaDoorFixMath
import Derived.Test.YtemdgmiaaehokaaDoorRefShortC
namespace Go.Proofs.YtemdgmiaaehokaaDoor
open Go.RowKit

set_option maxRecDepth 100000 in
set_option maxHeartbeats 400000 in
theorem fixed_any (n size : Nat) (w : World) (_ : n < 18446744073709551616) (hsz : size ≤ 8) :
    Calls Tryd.prog 21 #[.int .u64 n, .int .i64 size] w fun e w' => e = .returned (.string ⟨(le size n).toArray⟩) ∧ Below w.heap.size w w' := by
  go_enter Tryd.func21, Tryd.ntmps21
  go_wp2_with (at_make; refine wpList_make_bytes rfl _ _ rfl w.heap.size size _ _ _ _ rfl rfl rfl rfl (by omega) (Nat.le_refl _) ?_; intro w1 ho1 hb1)
  go_loopw [10] (fun i wr => ∃ k : Nat, k ≤ size ∧ i = .int .i64 k ∧ OwnB wr w.heap.size (.slice (some ⟨w.heap.size, 0, none⟩) size size) (le k n ++ List.replicate (size - k) 0) ∧ Below w.heap.size w wr) (fun i _ => size - (intOf i).toNat)
  case atStart => exact ⟨0, by omega, rfl, by simpa [le] using ho1, hb1⟩
  case round =>
    obtain ⟨k, hk, rfl, ho, hb⟩ := hrel
    by_cases hlt : k < size
    · have hlen : (le k n ++ List.replicate (size - k) (0 : UInt8)).length = size := by rw [List.length_append, le_length, List.length_replicate]; omega
      have hcell := ho.at k 0 (by rw [List.getElem?_append_right (by rw [le_length]; omega), le_length, Nat.sub_self, List.getElem?_replicate, if_pos (by omega)])
      have hfz := ho.thawed hlen k
      have R := ho.set hlen k (UInt8.ofNat (n / 256 ^ k % 256))
      rw [le_part size k n hlt, ← shr_byte] at R
      have HR := Lib.hid R; clear R
      have Hlen := Lib.hid hlen; clear hlen
      go_wp2
      go_roundw
      case rel => exact ⟨k + 1, by omega, by go_num, HR.out, hb.setCell (by simp) _⟩
      case measure => simp [intOf]; omega
    · have hcv := run_string_own ho
      go_wp2
      go_ret
      obtain rfl : k = size := by omega
      exact ⟨by simp, hb⟩

theorem ret2u {k : IntKind} {a b a' b' : Int} (h1 : a = a') (h2 : b = b') :
    Ending.returned (.tuple #[.int k a, .int .i64 b]) = .returned (.tuple #[.int k a', .int .i64 b']) := by rw [h1, h2]

theorem get_lt (l : List UInt8) (k : Nat) : (get l k).1 < 256 ^ k := by
  have h := Nat.pow_pos (n := k) (show 0 < 256 by omega)
  unfold get
  split
  · exact h
  · split
    · exact h
    · have := unle_lt l
      rw [show l.length = k by omega] at this; exact this

set_option maxRecDepth 100000 in
set_option maxHeartbeats 400000 in
theorem put32_any (n : Nat) (w : World) (hn : n < 4294967296) :
    Calls Tryd.prog 19 #[.int .u32 n] w fun e w' => e = .returned (.string ⟨(le 4 n).toArray⟩) ∧ Below w.heap.size w w' := by
  go_enter Tryd.func19, Tryd.ntmps19
  go_wp2_with (go_at_call 21; refine (fixed_any _ 4 _ (by omega) (by omega)).mono ?_; rintro e w1 ⟨rfl, hb1⟩)
  go_ret
  exact ⟨rfl, hb1⟩
set_option maxRecDepth 100000 in
set_option maxHeartbeats 400000 in
theorem rput_any (n size : Nat) (w : World) (hn : n < 18446744073709551616) (hsz : size ≤ 8) :
    Calls Tryd.prog 20 #[.int .u64 n, .int .i64 size] w fun e w' => e = .returned (.string ⟨(le size n).toArray⟩) ∧ Below w.heap.size w w' := by
  go_enter Tryd.func20, Tryd.ntmps20
  go_wp2
  go_loopw [0, 5, 6] (fun x t i wr => ∃ k : Nat, k ≤ size ∧ i = .int .i64 k ∧ x = .int .u64 ((n / 256 ^ k : Nat) : Int) ∧ t = .string ⟨(le k n).toArray⟩ ∧ Below w.heap.size w wr) (fun _ _ i _ => size - (intOf i).toNat)
  case atStart => exact ⟨0, by omega, rfl, by simp, rfl, Below.refl _ _⟩
  case round =>
    obtain ⟨k, hk, rfl, rfl, rfl, hb⟩ := hrel
    by_cases hlt : k < size
    · have hm : n / 256 ^ k < 18446744073709551616 := Nat.lt_of_le_of_lt (Nat.div_le_self _ _) hn
      have Hs := Lib.hid (le_snoc k n)
      have Hd : Hid (n / 256 ^ (k + 1) = n / 256 ^ k / 256) := by show _ = _; rw [Nat.pow_succ, Nat.div_div_eq_div_mul]
      have hlen := le_length k n
      have Hlen := Lib.hid hlen; clear hlen
      generalize hq : n / 256 ^ k = q at *
      have Hq := Lib.hid hq; clear hq
      have hx : ((q : Int) % 256) = ((UInt8.ofNat (q % 256)).toNat : Int) := by rw [UInt8.toNat_ofNat']; omega
      have hcv := fun w' b => run_string_one w' b 1 _ (UInt8.ofNat (q % 256)) hx
      have Hx := Lib.hid hx; clear hx
      have hadd := fun w' => run_string_add_sum (P := Tryd.prog) (w := w') ⟨(le k n).toArray⟩ ⟨#[UInt8.ofNat (q % 256)]⟩ (by have := Hlen.out; simp [ByteArray.size]; omega)
      have hsz2 := hb.size
      go_wp2
      go_roundw
      case rel => exact ⟨k + 1, by omega, by go_num, congrArg (Value.int .u64) (by rw [Hd.out]; omega), congrArg Value.string (by rw [Hs.out]; exact str_append (le k n) [UInt8.ofNat (q % 256)]), hb.alloc hsz2 _⟩
      case measure => simp [intOf]; omega
    · go_wp2
      go_ret
      obtain rfl : k = size := by omega
      exact ⟨rfl, hb⟩
end Go.Proofs.YtemdgmiaaehokaaDoor
