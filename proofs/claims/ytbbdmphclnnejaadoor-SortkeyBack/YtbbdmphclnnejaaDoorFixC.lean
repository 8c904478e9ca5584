/-
  Contracts of word.fixed, unfixed, Put32, Put64, Get32, Get64, and of the document's own Put and Get.
-/
import Derived.Test.YtbbdmphclnnejaaDoorWordShortC
import Derived.Test.YtbbdmphclnnejaaDoorFixMath
import Derived.Test.YtbbdmphclnnejaaDoorRefShortC
namespace Go.Proofs.YtbbdmphclnnejaaDoor
open Go.RowKit

theorem ret2u {k : IntKind} {a b a' b' : Int} (h1 : a = a') (h2 : b = b') :
    Ending.returned (.tuple #[.int k a, .int .i64 b]) = .returned (.tuple #[.int k a', .int .i64 b']) := by rw [h1, h2]

theorem get_lt (l : List UInt8) (k : Nat) : (get l k).1 < 256 ^ k := by
  have h := Nat.pow_pos (n := k) (show 0 < 256 by omega)
  unfold get
  split
  · exact h
  · split
    · exact h
    · have := unle_lt l
      rw [show l.length = k by omega] at this; exact this

set_option maxRecDepth 100000 in
set_option maxHeartbeats 400000 in
theorem rget_any (s : ByteArray) (size : Nat) (w : World) (hsz : size ≤ 8) (hl : s.size ≤ 9223372036854775807) :
    Calls Tryd.prog 41 #[.string s, .int .i64 size] w fun e w' => e = .returned (.tuple #[.int .u64 (get (bs s) size).1, .int .i64 (get (bs s) size).2]) ∧ w = w' := by
  unfold get
  rw [bs_length]
  by_cases h1 : s.size < size
  · rw [if_pos h1]
    go_enter Tryd.func41, Tryd.ntmps41
    go_wp2
    go_ret2
    exact ⟨rfl, rfl⟩
  rw [if_neg h1]
  by_cases h2 : size < s.size
  · rw [if_pos h2]
    go_enter Tryd.func41, Tryd.ntmps41
    go_wp2
    go_ret2
    exact ⟨rfl, rfl⟩
  rw [if_neg h2]
  obtain rfl : size = s.size := by omega
  clear h1 h2
  have hB := unle_lt (bs s)
  rw [bs_length] at hB
  have hp : (256 : Nat) ^ s.size ≤ 256 ^ 8 := Nat.pow_le_pow_right (by omega) hsz
  simp only [Nat.reducePow] at hp
  have HU : unle (bs s) < 18446744073709551616 := by omega
  clear hp hB
  go_enter Tryd.func41, Tryd.ntmps41
  go_wp2
  go_loop [6, 7] (fun x i => ∃ j : Nat, j ≤ s.size ∧ i = .int .i64 ((j : Int) - 1) ∧ x = .int .u64 (unle ((bs s).drop j))) (fun _ i => (intOf i + 1).toNat)
  case atStart =>
    refine ⟨s.size, by omega, rfl, ?_⟩
    rw [List.drop_eq_nil_of_le (by rw [bs_length]; omega)]; rfl
  case round =>
    obtain ⟨j, hj, rfl, rfl⟩ := hrel
    by_cases h0 : 0 < j
    · obtain ⟨i, rfl⟩ : ∃ i, j = i + 1 := ⟨j - 1, by omega⟩
      have hi : i < s.size := by omega
      have Hd := Lib.hid (unle_drop (bs_at s i hi))
      have hb := unle_drop_le (bs s) i
      have HB2 : 256 * unle ((bs s).drop (i + 1)) + s[i].toNat < 18446744073709551616 := by have := Hd.out; omega
      clear hb
      generalize hq : unle ((bs s).drop (i + 1)) = q at *
      have Hq := Lib.hid hq; clear hq
      go_wp2
      go_round
      case rel => exact ⟨i, by omega, rfl, congrArg (Value.int .u64) (by rw [Hd.out]; omega)⟩
      case measure => simp [intOf]
    · obtain rfl : j = 0 := by omega
      go_wp2
      go_ret2
      exact ⟨ret2u rfl rfl, rfl⟩

set_option maxRecDepth 100000 in
set_option maxHeartbeats 400000 in
theorem rput_any (n size : Nat) (w : World) (hn : n < 18446744073709551616) (hsz : size ≤ 8) :
    Calls Tryd.prog 37 #[.int .u64 n, .int .i64 size] w fun e w' => e = .returned (.string ⟨(le size n).toArray⟩) ∧ Below w.heap.size w w' := by
  go_enter Tryd.func37, Tryd.ntmps37
  go_wp2
  go_loopw [0, 5, 6] (fun x t i wr => ∃ k : Nat, k ≤ size ∧ i = .int .i64 k ∧ x = .int .u64 ((n / 256 ^ k : Nat) : Int) ∧ t = .string ⟨(le k n).toArray⟩ ∧ Below w.heap.size w wr) (fun _ _ i _ => size - (intOf i).toNat)
  case atStart => exact ⟨0, by omega, rfl, by simp, rfl, Below.refl _ _⟩
  case round =>
    obtain ⟨k, hk, rfl, rfl, rfl, hb⟩ := hrel
    by_cases hlt : k < size
    · have hm : n / 256 ^ k < 18446744073709551616 := Nat.lt_of_le_of_lt (Nat.div_le_self _ _) hn
      have Hs := Lib.hid (le_snoc k n)
      have Hd : Hid (n / 256 ^ (k + 1) = n / 256 ^ k / 256) := by show _ = _; rw [Nat.pow_succ, Nat.div_div_eq_div_mul]
      have hlen := le_length k n
      have Hlen := Lib.hid hlen; clear hlen
      generalize hq : n / 256 ^ k = q at *
      have Hq := Lib.hid hq; clear hq
      have hx : ((q : Int) % 256) = ((UInt8.ofNat (q % 256)).toNat : Int) := by rw [UInt8.toNat_ofNat']; omega
      have hcv := fun w' b => run_string_one w' b 1 _ (UInt8.ofNat (q % 256)) hx
      have Hx := Lib.hid hx; clear hx
      have hadd := fun w' => run_string_add_sum (P := Tryd.prog) (w := w') ⟨(le k n).toArray⟩ ⟨#[UInt8.ofNat (q % 256)]⟩ (by have := Hlen.out; simp [ByteArray.size]; omega)
      have hsz2 := hb.size
      go_wp2
      go_roundw
      case rel => exact ⟨k + 1, by omega, by go_num, congrArg (Value.int .u64) (by rw [Hd.out]; omega), congrArg Value.string (by rw [Hs.out]; exact str_append (le k n) [UInt8.ofNat (q % 256)]), hb.alloc hsz2 _⟩
      case measure => simp [intOf]; omega
    · go_wp2
      go_ret
      obtain rfl : k = size := by omega
      exact ⟨rfl, hb⟩
end Go.Proofs.YtbbdmphclnnejaaDoor
