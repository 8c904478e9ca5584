/-
  Contracts of word.fixed, unfixed, Put32, Put64, Get32, Get64, and of the document's own Put and Get.
-/
import Derived.Test.YtnjcpfbkcaeodaaWordShortC
import Derived.Test.YtnjcpfbkcaeodaaFixMath
import Derived.Test.YtnjcpfbkcaeodaaRefShortC
namespace Go.Proofs.Ytnjcpfbkcaeodaa
open Go.RowKit

set_option maxRecDepth 100000 in
set_option maxHeartbeats 400000 in
theorem fixed_any (n size : Nat) (w : World) (_ : n < 18446744073709551616) (hsz : size ≤ 8) :
    Calls Try.prog 32 #[.int .u64 n, .int .i64 size] w fun e w' => e = .returned (.string ⟨(le size n).toArray⟩) ∧ Below w.heap.size w w' := by
  go_enter Try.func32, Try.ntmps32
  go_wp2_with (at_make; refine wpList_make_bytes rfl _ _ rfl w.heap.size size _ _ _ _ rfl rfl rfl rfl (by omega) (Nat.le_refl _) ?_; intro w1 ho1 hb1)
  go_loopw [10] (fun i wr => ∃ k : Nat, k ≤ size ∧ i = .int .i64 k ∧ OwnB wr w.heap.size (.slice (some ⟨w.heap.size, 0, none⟩) size size) (le k n ++ List.replicate (size - k) 0) ∧ Below w.heap.size w wr) (fun i _ => size - (intOf i).toNat)
  case atStart => exact ⟨0, by omega, rfl, by simpa [le] using ho1, hb1⟩
  case round =>
    obtain ⟨k, hk, rfl, ho, hb⟩ := hrel
    by_cases hlt : k < size
    · have hlen : (le k n ++ List.replicate (size - k) (0 : UInt8)).length = size := by rw [List.length_append, le_length, List.length_replicate]; omega
      have hcell := ho.at k 0 (by rw [List.getElem?_append_right (by rw [le_length]; omega), le_length, Nat.sub_self, List.getElem?_replicate, if_pos (by omega)])
      have hfz := ho.thawed hlen k
      have R := ho.set hlen k (UInt8.ofNat (n / 256 ^ k % 256))
      rw [le_part size k n hlt, ← shr_byte] at R
      have HR := Lib.hid R; clear R
      have Hlen := Lib.hid hlen; clear hlen
      go_wp2
      go_roundw
      case rel => exact ⟨k + 1, by omega, by go_num, HR.out, hb.setCell (by simp) _⟩
      case measure => simp [intOf]; omega
    · have hcv := run_string_own ho
      go_wp2
      go_ret
      obtain rfl : k = size := by omega
      exact ⟨by simp, hb⟩

theorem ret2u {k : IntKind} {a b a' b' : Int} (h1 : a = a') (h2 : b = b') :
    Ending.returned (.tuple #[.int k a, .int .i64 b]) = .returned (.tuple #[.int k a', .int .i64 b']) := by rw [h1, h2]

set_option maxRecDepth 100000 in
set_option maxHeartbeats 400000 in
theorem unfixed_any (s : ByteArray) (size : Nat) (w : World) (hsz : size ≤ 8) (hl : s.size ≤ 9223372036854775807) :
    Calls Try.prog 31 #[.string s, .int .i64 size] w fun e w' => e = .returned (.tuple #[.int .u64 (get (bs s) size).1, .int .i64 (get (bs s) size).2]) ∧ w = w' := by
  unfold get
  rw [bs_length]
  by_cases h1 : s.size < size
  · rw [if_pos h1]
    go_enter Try.func31, Try.ntmps31
    go_wp2
    go_ret2
    exact ⟨rfl, rfl⟩
  rw [if_neg h1]
  by_cases h2 : size < s.size
  · rw [if_pos h2]
    go_enter Try.func31, Try.ntmps31
    go_wp2
    go_ret2
    exact ⟨rfl, rfl⟩
  rw [if_neg h2]
  obtain rfl : size = s.size := by omega
  clear h1 h2
  go_enter Try.func31, Try.ntmps31
  go_wp2
  go_loop [6, 17] (fun x i => ∃ k : Nat, k ≤ s.size ∧ i = .int .i64 k ∧ x = .int .u64 (unle ((bs s).take k))) (fun _ i => s.size - (intOf i).toNat)
  case atStart => exact ⟨0, by omega, rfl, rfl⟩
  case round =>
    obtain ⟨k, hk, rfl, rfl⟩ := hrel
    by_cases hlt : k < s.size
    · have hc256 := s[k].toNat_lt
      have Hd := Lib.hid (unle_take_lt (l := bs s) (k := k) (by rw [bs_length]; omega))
      have Ha := Lib.hid (or_step (unle ((bs s).take k)) s[k].toNat k (by omega) (by omega) Hd.out)
      have Hs := Lib.hid (unle_take (bs_at s k hlt))
      go_wp2
      go_round
      case rel => exact ⟨k + 1, by omega, by go_num, congrArg (Value.int .u64) (by rw [Hs.out]; exact Ha.out)⟩
      case measure => simp [intOf]; omega
    · go_wp2
      go_ret2
      obtain rfl : k = s.size := by omega
      exact ⟨ret2u (by rw [List.take_of_length_le (by rw [bs_length]; omega)]) rfl, rfl⟩

theorem get_lt (l : List UInt8) (k : Nat) : (get l k).1 < 256 ^ k := by
  have h := Nat.pow_pos (n := k) (show 0 < 256 by omega)
  unfold get
  split
  · exact h
  · split
    · exact h
    · have := unle_lt l
      rw [show l.length = k by omega] at this; exact this

set_option maxRecDepth 100000 in
set_option maxHeartbeats 400000 in
theorem get32_any (s : ByteArray) (w : World) (hl : s.size ≤ 9223372036854775807) :
    Calls Try.prog 10 #[.string s] w fun e w' => e = .returned (.tuple #[.int .u32 (get (bs s) 4).1, .int .i64 (get (bs s) 4).2]) ∧ w = w' := by
  have hb := get_lt (bs s) 4
  simp only [Nat.reducePow] at hb
  go_enter Try.func10, Try.ntmps10
  go_wp2_with (go_at_call 31; refine (unfixed_any _ 4 _ (by omega) (by omega)).mono ?_; rintro e w1 ⟨rfl, rfl⟩)
  go_ret2
  exact ⟨rfl, rfl⟩
set_option maxRecDepth 100000 in
set_option maxHeartbeats 400000 in
theorem get64_any (s : ByteArray) (w : World) (hl : s.size ≤ 9223372036854775807) :
    Calls Try.prog 12 #[.string s] w fun e w' => e = .returned (.tuple #[.int .u64 (get (bs s) 8).1, .int .i64 (get (bs s) 8).2]) ∧ w = w' := by
  go_enter Try.func12, Try.ntmps12
  go_wp2_with (go_at_call 31; refine (unfixed_any _ 8 _ (by omega) (by omega)).mono ?_; rintro e w1 ⟨rfl, rfl⟩)
  go_ret2
  exact ⟨rfl, rfl⟩
set_option maxRecDepth 100000 in
set_option maxHeartbeats 400000 in
theorem put32_any (n : Nat) (w : World) (hn : n < 4294967296) :
    Calls Try.prog 13 #[.int .u32 n] w fun e w' => e = .returned (.string ⟨(le 4 n).toArray⟩) ∧ Below w.heap.size w w' := by
  go_enter Try.func13, Try.ntmps13
  go_wp2_with (go_at_call 32; refine (fixed_any _ 4 _ (by omega) (by omega)).mono ?_; rintro e w1 ⟨rfl, hb1⟩)
  go_ret
  exact ⟨rfl, hb1⟩
set_option maxRecDepth 100000 in
set_option maxHeartbeats 400000 in
theorem put64_any (n : Nat) (w : World) (hn : n < 18446744073709551616) :
    Calls Try.prog 15 #[.int .u64 n] w fun e w' => e = .returned (.string ⟨(le 8 n).toArray⟩) ∧ Below w.heap.size w w' := by
  go_enter Try.func15, Try.ntmps15
  go_wp2_with (go_at_call 32; refine (fixed_any _ 8 _ (by omega) (by omega)).mono ?_; rintro e w1 ⟨rfl, hb1⟩)
  go_ret
  exact ⟨rfl, hb1⟩

set_option maxRecDepth 100000 in
set_option maxHeartbeats 400000 in
theorem rget_any (s : ByteArray) (size : Nat) (w : World) (hsz : size ≤ 8) (hl : s.size ≤ 9223372036854775807) :
    Calls Try.prog 11 #[.string s, .int .i64 size] w fun e w' => e = .returned (.tuple #[.int .u64 (get (bs s) size).1, .int .i64 (get (bs s) size).2]) ∧ w = w' := by
  unfold get
  rw [bs_length]
  by_cases h1 : s.size < size
  · rw [if_pos h1]
    go_enter Try.func11, Try.ntmps11
    go_wp2
    go_ret2
    exact ⟨rfl, rfl⟩
  rw [if_neg h1]
  by_cases h2 : size < s.size
  · rw [if_pos h2]
    go_enter Try.func11, Try.ntmps11
    go_wp2
    go_ret2
    exact ⟨rfl, rfl⟩
  rw [if_neg h2]
  obtain rfl : size = s.size := by omega
  clear h1 h2
  have hB := unle_lt (bs s)
  rw [bs_length] at hB
  have hp : (256 : Nat) ^ s.size ≤ 256 ^ 8 := Nat.pow_le_pow_right (by omega) hsz
  simp only [Nat.reducePow] at hp
  have HU : unle (bs s) < 18446744073709551616 := by omega
  clear hp hB
  go_enter Try.func11, Try.ntmps11
  go_wp2
  go_loop [6, 7] (fun x i => ∃ j : Nat, j ≤ s.size ∧ i = .int .i64 ((j : Int) - 1) ∧ x = .int .u64 (unle ((bs s).drop j))) (fun _ i => (intOf i + 1).toNat)
  case atStart =>
    refine ⟨s.size, by omega, rfl, ?_⟩
    rw [List.drop_eq_nil_of_le (by rw [bs_length]; omega)]; rfl
  case round =>
    obtain ⟨j, hj, rfl, rfl⟩ := hrel
    by_cases h0 : 0 < j
    · obtain ⟨i, rfl⟩ : ∃ i, j = i + 1 := ⟨j - 1, by omega⟩
      have hi : i < s.size := by omega
      have Hd := Lib.hid (unle_drop (bs_at s i hi))
      have hb := unle_drop_le (bs s) i
      have HB2 : 256 * unle ((bs s).drop (i + 1)) + s[i].toNat < 18446744073709551616 := by have := Hd.out; omega
      clear hb
      generalize hq : unle ((bs s).drop (i + 1)) = q at *
      have Hq := Lib.hid hq; clear hq
      go_wp2
      go_round
      case rel => exact ⟨i, by omega, rfl, congrArg (Value.int .u64) (by rw [Hd.out]; omega)⟩
      case measure => simp [intOf]
    · obtain rfl : j = 0 := by omega
      go_wp2
      go_ret2
      exact ⟨ret2u rfl rfl, rfl⟩

set_option maxRecDepth 100000 in
set_option maxHeartbeats 400000 in
theorem rput_any (n size : Nat) (w : World) (hn : n < 18446744073709551616) (hsz : size ≤ 8) :
    Calls Try.prog 14 #[.int .u64 n, .int .i64 size] w fun e w' => e = .returned (.string ⟨(le size n).toArray⟩) ∧ Below w.heap.size w w' := by
  go_enter Try.func14, Try.ntmps14
  go_wp2
  go_loopw [0, 5, 6] (fun x t i wr => ∃ k : Nat, k ≤ size ∧ i = .int .i64 k ∧ x = .int .u64 ((n / 256 ^ k : Nat) : Int) ∧ t = .string ⟨(le k n).toArray⟩ ∧ Below w.heap.size w wr) (fun _ _ i _ => size - (intOf i).toNat)
  case atStart => exact ⟨0, by omega, rfl, by simp, rfl, Below.refl _ _⟩
  case round =>
    obtain ⟨k, hk, rfl, rfl, rfl, hb⟩ := hrel
    by_cases hlt : k < size
    · have hm : n / 256 ^ k < 18446744073709551616 := Nat.lt_of_le_of_lt (Nat.div_le_self _ _) hn
      have Hs := Lib.hid (le_snoc k n)
      have Hd : Hid (n / 256 ^ (k + 1) = n / 256 ^ k / 256) := by show _ = _; rw [Nat.pow_succ, Nat.div_div_eq_div_mul]
      have hlen := le_length k n
      have Hlen := Lib.hid hlen; clear hlen
      generalize hq : n / 256 ^ k = q at *
      have Hq := Lib.hid hq; clear hq
      have hx : ((q : Int) % 256) = ((UInt8.ofNat (q % 256)).toNat : Int) := by rw [UInt8.toNat_ofNat']; omega
      have hcv := fun w' b => run_string_one w' b 1 _ (UInt8.ofNat (q % 256)) hx
      have Hx := Lib.hid hx; clear hx
      have hadd := fun w' => run_string_add_sum (P := Try.prog) (w := w') ⟨(le k n).toArray⟩ ⟨#[UInt8.ofNat (q % 256)]⟩ (by have := Hlen.out; simp [ByteArray.size]; omega)
      have hsz2 := hb.size
      go_wp2
      go_roundw
      case rel => exact ⟨k + 1, by omega, by go_num, congrArg (Value.int .u64) (by rw [Hd.out]; omega), congrArg Value.string (by rw [Hs.out]; exact str_append (le k n) [UInt8.ofNat (q % 256)]), hb.alloc hsz2 _⟩
      case measure => simp [intOf]; omega
    · go_wp2
      go_ret
      obtain rfl : k = size := by omega
      exact ⟨rfl, hb⟩
end Go.Proofs.Ytnjcpfbkcaeodaa
