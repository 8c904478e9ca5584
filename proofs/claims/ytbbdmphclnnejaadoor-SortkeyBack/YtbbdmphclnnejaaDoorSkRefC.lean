/-
  Contracts of the document's own back, One, Of and Right of layer 7.
-/
import Derived.Test.YtbbdmphclnnejaaDoorSkOfC
import Derived.Test.YtbbdmphclnnejaaDoorFixC
namespace Go.Proofs.YtbbdmphclnnejaaDoor
open Go.RowKit

theorem bs_one (s : ByteArray) (j : Nat) (h : j < s.size) : bs (s.extract j (j + 1)) = [s[j]] := by
  have e := bs_at s j h
  obtain ⟨h1, h2⟩ := List.getElem?_eq_some_iff.1 e
  rw [bs_extract, List.take_succ_eq_append_getElem h1, List.drop_append_of_le_length (by rw [List.length_take, bs_length]; omega), List.drop_of_length_le (by rw [List.length_take]; omega), h2]; rfl
theorem str_of {t : ByteArray} {l : List UInt8} (h : bs t = l) : t = ⟨l.toArray⟩ := bs_eq (h.trans (by simp [bs]))
theorem size_of {t : ByteArray} {l : List UInt8} (h : bs t = l) : t.size = l.length := by rw [← h, bs_length]

set_option maxRecDepth 100000 in
set_option maxHeartbeats 400000 in
theorem rback_any (s : ByteArray) (w : World) (hs : s.size ≤ 1000000) : Calls Tryd.prog 36 #[.string s] w fun e w' => e = .returned (.string ⟨(bs s).reverse.toArray⟩) ∧ w = w' := by
  go_enter Tryd.func36, Tryd.ntmps36
  go_wp2
  go_loop [3, 4] (fun x i => ∃ (k : Nat) (z : Int) (t : ByteArray), k ≤ s.size ∧ z = (k : Int) - 1 ∧ i = .int .i64 z ∧ x = .string t ∧ Hid (bs t = ((bs s).drop k).reverse)) (fun _ i => (intOf i + 1).toNat)
  case atStart =>
    refine ⟨s.size, _, ⟨#[]⟩, Nat.le_refl _, rfl, rfl, rfl, ?_⟩
    show _ = _
    rw [List.drop_eq_nil_of_le (by rw [bs_length]; omega)]; rfl
  case round =>
    obtain ⟨k, z, t, hk, hz, rfl, rfl, Ht⟩ := hrel
    by_cases h0 : 0 < k
    · obtain ⟨j, rfl⟩ : ∃ j, k = j + 1 := ⟨k - 1, by omega⟩
      obtain rfl : z = (j : Int) := by omega
      clear hz
      have hj : j < s.size := by omega
      have Hn : Hid (bs (t ++ s.extract j (j + 1)) = ((bs s).drop j).reverse) := by
        show _ = _
        rw [bs_append, Ht.out, bs_one s j hj, drop_at (bs_at s j hj), List.reverse_cons]
      have Hsz := size_of Ht.out
      rw [List.length_reverse, List.length_drop, bs_length] at Hsz
      have hadd := fun w' => run_string_add_sum (P := Tryd.prog) (w := w') t (s.extract j (j + 1)) (by rw [size_of (bs_one s j hj), Hsz]; simp; omega)
      go_wp2
      go_round
      case rel => exact ⟨j, _, _, by omega, rfl, rfl, rfl, Hn.out⟩
      case measure => simp [intOf]
    · obtain rfl : k = 0 := by omega
      obtain rfl : z = -1 := by omega
      clear hz
      have He := Lib.hid (str_of Ht.out)
      go_wp2
      go_ret
      exact ⟨by rw [He.out, List.drop_zero]; rfl, rfl⟩

theorem rev_size (l : List UInt8) : (⟨(bs ⟨l.toArray⟩).reverse.toArray⟩ : ByteArray).size = l.length := by
  rw [bs_mk, ba_size l.reverse, List.length_reverse]
theorem bs_rev (l : List UInt8) : bs ⟨(bs ⟨l.toArray⟩).reverse.toArray⟩ = l.reverse := by rw [bs_mk, bs_mk]
set_option maxRecDepth 100000 in
set_option maxHeartbeats 800000 in
theorem rone7_any (k n : Int) (s : ByteArray) (w : World) (hr : rightV k n (bs s) = true) (b1 : -9223372036854775808 ≤ n) (b2 : n < 9223372036854775808) :
    Calls Tryd.prog 25 #[VV k n s] w fun e w' => e = .returned (.string ⟨(key k n (bs s)).toArray⟩) ∧ Below w.heap.size w w' := by
  rcases rightV_form hr with ⟨rfl, rfl, hs⟩ | ⟨rfl, p1, p2, hs⟩ | ⟨rfl, hs⟩ | ⟨rfl, rfl, hs, _⟩ | ⟨rfl, rfl, hs⟩
  · have hcv := fun w' b => run_string_one w' b 1 0 0 rfl
    clear hr hs b1 b2
    go_enter Tryd.func25, Tryd.ntmps25
    go_wp2_with fail
    go_ret
    exact ⟨rfl, by go_grown⟩
  · obtain ⟨m, hm⟩ := Int.eq_ofNat_of_zero_le (a := n + 2147483648) (by omega)
    have hcv := fun w' b => run_string_one w' b 1 1 1 rfl
    have Hk : Hid (key 1 n (bs s) = 1 :: be 4 m) := by show _ = _; rw [key_1, hm]; rfl
    obtain rfl : n = (m : Int) - 2147483648 := by omega
    have hm2 : m < 4294967296 := by omega
    clear hr hs hm b1 b2 p1 p2
    go_enter Tryd.func25, Tryd.ntmps25
    go_wp2_with fail
    refine (rput_any m 4 _ (by omega) (by omega)).mono ?_
    rintro e w1 ⟨rfl, hb1⟩
    go_wp2_with fail
    refine (rback_any _ _ (by rw [ba_size, le_length]; omega)).mono ?_
    rintro e w2 ⟨rfl, rfl⟩
    have hadd := fun w' => run_string_add_sum (P := Tryd.prog) (w := w') ⟨#[1]⟩ ⟨(bs ⟨(le 4 m).toArray⟩).reverse.toArray⟩ (by rw [rev_size, le_length]; decide)
    have He : Hid ((⟨#[1]⟩ : ByteArray) ++ ⟨(bs ⟨(le 4 m).toArray⟩).reverse.toArray⟩ = ⟨(1 :: be 4 m).toArray⟩) := by
      show _ = _
      rw [bs_mk]
      exact str_append [1] (be 4 m)
    go_wp2_with fail
    go_ret
    exact ⟨by rw [Hk.out, ← He.out]; rfl, (((Below.refl _ w).alloc (Nat.le_refl _) _).alloc (by simp) _).trans (hb1.mono (by simp; omega))⟩
  · obtain ⟨m, hm⟩ := Int.eq_ofNat_of_zero_le (a := n + 9223372036854775808) (by omega)
    have hcv := fun w' b => run_string_one w' b 1 2 2 rfl
    have Hk : Hid (key 2 n (bs s) = 2 :: be 8 m) := by show _ = _; rw [key_2, hm]; rfl
    have He : Hid ((⟨#[2]⟩ : ByteArray) ++ ⟨(bs ⟨(le 8 m).toArray⟩).reverse.toArray⟩ = ⟨(2 :: be 8 m).toArray⟩) := by
      show _ = _
      rw [bs_mk]
      exact str_append [2] (be 8 m)
    have hm2 : m < 18446744073709551616 := by omega
    by_cases h0 : 0 ≤ n
    · go_enter Tryd.func25, Tryd.ntmps25
      go_wp2_with fail
      refine (rput_any m 8 _ (by omega) (by omega)).mono ?_
      rintro e w1 ⟨rfl, hb1⟩
      go_wp2_with fail
      refine (rback_any _ _ (by rw [ba_size, le_length]; omega)).mono ?_
      rintro e w2 ⟨rfl, rfl⟩
      have hadd := fun w' => run_string_add_sum (P := Tryd.prog) (w := w') ⟨#[2]⟩ ⟨(bs ⟨(le 8 m).toArray⟩).reverse.toArray⟩ (by rw [rev_size, le_length]; decide)
      go_wp2_with fail
      go_ret
      exact ⟨by rw [Hk.out, ← He.out]; rfl, (((Below.refl _ w).alloc (Nat.le_refl _) _).alloc (by simp) _).trans (hb1.mono (by simp; omega))⟩
    · have d : decide (0 ≤ n) = false := by simp; omega
      have Hq : Hid (IntKind.u64.wrap (IntKind.u64.wrap n - 9223372036854775808) = (m : Int)) := by
        show _ = _
        rw [IntKind.wrap_u64, IntKind.wrap_u64]; omega
      go_enter Tryd.func25, Tryd.ntmps25
      go_wp2_with fail
      rw [Hq.out]
      refine (rput_any m 8 _ (by omega) (by omega)).mono ?_
      rintro e w1 ⟨rfl, hb1⟩
      go_wp2_with fail
      refine (rback_any _ _ (by rw [ba_size, le_length]; omega)).mono ?_
      rintro e w2 ⟨rfl, rfl⟩
      have hadd := fun w' => run_string_add_sum (P := Tryd.prog) (w := w') ⟨#[2]⟩ ⟨(bs ⟨(le 8 m).toArray⟩).reverse.toArray⟩ (by rw [rev_size, le_length]; decide)
      go_wp2_with fail
      go_ret
      exact ⟨by rw [Hk.out, ← He.out]; rfl, (((Below.refl _ w).alloc (Nat.le_refl _) _).alloc (by simp) _).trans (hb1.mono (by simp; omega))⟩
  · rw [bs_length] at hs
    have hcv := fun w' b => run_string_one w' b 1 3 3 rfl
    clear hr b1 b2
    go_enter Tryd.func25, Tryd.ntmps25
    go_wp2_with fail
    go_loop [3, 5] (fun x i => ∃ (k : Nat) (t : ByteArray), k ≤ s.size ∧ i = .int .i64 k ∧ x = .string t ∧ Hid (bs t = 3 :: esc ((bs s).take k))) (fun _ i => s.size - (intOf i).toNat)
    case atStart => exact ⟨0, ⟨#[3]⟩, by omega, rfl, rfl, rfl⟩
    case round =>
      obtain ⟨k, t, hk, rfl, rfl, Ht⟩ := hrel
      have Hsz : Hid (t.size ≤ 1000) := by
        show _ ≤ _
        have h1 := esc_len ((bs s).take k)
        have h2 := List.length_take_le k (bs s)
        rw [size_of Ht.out, List.length_cons]; omega
      by_cases hlt : k < s.size
      · have Hat := Lib.hid (bs_at s k hlt)
        have H1 := Lib.hid (bs_one s k hlt)
        have H1s : Hid ((s.extract k (k + 1)).size = 1) := size_of H1.out
        have hadd := fun w' => run_string_add_sum (P := Tryd.prog) (w := w') t (s.extract k (k + 1)) (by have := Hsz.out; have := H1s.out; omega)
        by_cases hc : s[k].toNat = 0
        · have He := Lib.hid (esc_at0 Hat.out (u8_zero hc))
          have d : ((s[k].toNat : Int) == 0) = true := by simp [hc]
          have Hn : Hid (bs (t ++ s.extract k (k + 1) ++ ⟨#[255]⟩) = 3 :: esc ((bs s).take (k + 1))) := by
            show _ = _
            rw [He.out, bs_append, bs_append, Ht.out, H1.out]; simp [bs]
          have hadd2 := fun w' => run_string_add_sum (P := Tryd.prog) (w := w') (t ++ s.extract k (k + 1)) ⟨#[255]⟩ (by
            have := Hsz.out; have := H1s.out
            rw [ByteArray.size_append, show (⟨#[255]⟩ : ByteArray).size = 1 from rfl]; omega)
          clear hc
          go_wp2_with fail
          go_round
          case rel => exact ⟨k + 1, _, by omega, by go_num, rfl, Hn.out⟩
          case measure => simp [intOf]; omega
        · have He := Lib.hid (esc_at1 Hat.out (u8_nonzero hc))
          have d : ((s[k].toNat : Int) == 0) = false := by simp [hc]
          have Hn : Hid (bs (t ++ s.extract k (k + 1)) = 3 :: esc ((bs s).take (k + 1))) := by
            show _ = _
            rw [He.out, bs_append, Ht.out, H1.out]; rfl
          clear hc
          go_wp2_with fail
          go_round
          case rel => exact ⟨k + 1, _, by omega, by go_num, rfl, Hn.out⟩
          case measure => simp [intOf]; omega
      · have hadd := fun w' => run_string_add_sum (P := Tryd.prog) (w := w') t ⟨#[0, 0]⟩ (by have := Hsz.out; rw [show (⟨#[0, 0]⟩ : ByteArray).size = 2 from rfl]; omega)
        have Hn : Hid (t ++ ⟨#[0, 0]⟩ = ⟨(key 3 0 (bs s)).toArray⟩) := by
          refine str_of ?_
          have h1 := Ht.out
          rw [List.take_of_length_le (by rw [bs_length]; omega)] at h1
          rw [key_3, bs_append, h1]; rfl
        go_wp2_with fail
        go_ret
        exact ⟨by rw [← Hn.out]; rfl, by go_grown⟩
  · rw [bs_length] at hs
    have hcv := fun w' b => run_string_one w' b 1 4 4 rfl
    clear hr b1 b2
    go_enter Tryd.func25, Tryd.ntmps25
    go_wp2_with fail
    go_loop [3, 5] (fun x i => ∃ (k : Nat) (t : ByteArray), k ≤ s.size ∧ i = .int .i64 k ∧ x = .string t ∧ Hid (bs t = 4 :: esc ((bs s).take k))) (fun _ i => s.size - (intOf i).toNat)
    case atStart => exact ⟨0, ⟨#[4]⟩, by omega, rfl, rfl, rfl⟩
    case round =>
      obtain ⟨k, t, hk, rfl, rfl, Ht⟩ := hrel
      have Hsz : Hid (t.size ≤ 1000) := by
        show _ ≤ _
        have h1 := esc_len ((bs s).take k)
        have h2 := List.length_take_le k (bs s)
        rw [size_of Ht.out, List.length_cons]; omega
      by_cases hlt : k < s.size
      · have Hat := Lib.hid (bs_at s k hlt)
        have H1 := Lib.hid (bs_one s k hlt)
        have H1s : Hid ((s.extract k (k + 1)).size = 1) := size_of H1.out
        have hadd := fun w' => run_string_add_sum (P := Tryd.prog) (w := w') t (s.extract k (k + 1)) (by have := Hsz.out; have := H1s.out; omega)
        by_cases hc : s[k].toNat = 0
        · have He := Lib.hid (esc_at0 Hat.out (u8_zero hc))
          have d : ((s[k].toNat : Int) == 0) = true := by simp [hc]
          have Hn : Hid (bs (t ++ s.extract k (k + 1) ++ ⟨#[255]⟩) = 4 :: esc ((bs s).take (k + 1))) := by
            show _ = _
            rw [He.out, bs_append, bs_append, Ht.out, H1.out]; simp [bs]
          have hadd2 := fun w' => run_string_add_sum (P := Tryd.prog) (w := w') (t ++ s.extract k (k + 1)) ⟨#[255]⟩ (by
            have := Hsz.out; have := H1s.out
            rw [ByteArray.size_append, show (⟨#[255]⟩ : ByteArray).size = 1 from rfl]; omega)
          clear hc
          go_wp2_with fail
          go_round
          case rel => exact ⟨k + 1, _, by omega, by go_num, rfl, Hn.out⟩
          case measure => simp [intOf]; omega
        · have He := Lib.hid (esc_at1 Hat.out (u8_nonzero hc))
          have d : ((s[k].toNat : Int) == 0) = false := by simp [hc]
          have Hn : Hid (bs (t ++ s.extract k (k + 1)) = 4 :: esc ((bs s).take (k + 1))) := by
            show _ = _
            rw [He.out, bs_append, Ht.out, H1.out]; rfl
          clear hc
          go_wp2_with fail
          go_round
          case rel => exact ⟨k + 1, _, by omega, by go_num, rfl, Hn.out⟩
          case measure => simp [intOf]; omega
      · have hadd := fun w' => run_string_add_sum (P := Tryd.prog) (w := w') t ⟨#[0, 0]⟩ (by have := Hsz.out; rw [show (⟨#[0, 0]⟩ : ByteArray).size = 2 from rfl]; omega)
        have Hn : Hid (t ++ ⟨#[0, 0]⟩ = ⟨(key 4 0 (bs s)).toArray⟩) := by
          refine str_of ?_
          have h1 := Ht.out
          rw [List.take_of_length_le (by rw [bs_length]; omega)] at h1
          rw [key_4, bs_append, h1]; rfl
        go_wp2_with fail
        go_ret
        exact ⟨by rw [← Hn.out]; rfl, by go_grown⟩
end Go.Proofs.YtbbdmphclnnejaaDoor
