/-
  Contracts of word.isLastDigit and word.Long.
-/
import Derived.Test.YtnjcpfbkcaeodaaWordShortC
import Derived.Test.YtnjcpfbkcaeodaaLongMath
namespace Go.Proofs.Ytnjcpfbkcaeodaa
open Go.RowKit

set_option maxRecDepth 100000 in
set_option maxHeartbeats 400000 in
theorem isLastDigit_any (c m : Nat) (w : World) (hc : c < 128) (hm : m < 10) :
    Calls Try.prog 35 #[.int .u8 c, .int .i64 m] w fun e w' => e = .returned (.bool (lastOk m c)) ∧ w = w' := by
  by_cases h0 : m = 0
  · subst h0
    have hd : decide ((0 : Int) < ((0 : Nat) : Int)) = false := by simp
    go_enter Try.func35, Try.ntmps35
    go_wp2
    go_ret
    exact ⟨rfl, rfl⟩
  have hd : decide ((0 : Int) < (m : Int)) = true := by simp; omega
  by_cases hz : c = 0
  · subst hz
    have H : Hid (lastOk m 0 = false) := by show _ = _; unfold lastOk; simp; omega
    go_enter Try.func35, Try.ntmps35
    go_wp2
    go_ret
    exact ⟨by rw [H.out]; rfl, rfl⟩
  have hz' : ((c : Int) == 0) = false := by simp; omega
  by_cases h9 : m = 9
  · subst h9
    have H : Hid (lastOk 9 c = decide ((c : Int) ≤ 1)) := by
      show _ = _; unfold lastOk; rw [Bool.eq_iff_iff]; simp; omega
    go_enter Try.func35, Try.ntmps35
    go_wp2
    go_ret
    exact ⟨by rw [H.out]; rfl, rfl⟩
  · have H : Hid (lastOk m c = true) := by show _ = _; unfold lastOk; simp; omega
    have hd9 : decide ((m : Int) < 9) = true := by simp; omega
    go_enter Try.func35, Try.ntmps35
    go_wp2
    go_ret
    exact ⟨by rw [H.out]; rfl, rfl⟩

set_option maxRecDepth 100000 in
set_option maxHeartbeats 400000 in
theorem long_any (s : ByteArray) (w : World) (hl : s.size ≤ 9223372036854775807) :
    Calls Try.prog 18 #[.string s] w fun e w' => e = .returned (.tuple #[.int .u64 (long (bs s)).1, .int .i64 (long (bs s)).2.1, .int .i64 (long (bs s)).2.2]) ∧ w = w' := by
  by_cases h10 : (10 : Int) < s.size
  all_goals
    go_enter Try.func18, Try.ntmps18
    go_wp2
    go_loop [2, 10] (fun n i => ∃ (k : Nat) (x : Int), k ≤ s.size ∧ k ≤ 10 ∧ i = .int .i64 k ∧ n = .int .u64 x ∧ (k ≤ 9 → x = digs ((bs s).take k)) ∧ Hid (∀ j d, j < k → (bs s)[j]? = some d → 128 ≤ d.toNat)) (fun _ i => 10 - (intOf i).toNat)
    case atStart => exact ⟨0, 0, by omega, by omega, rfl, rfl, fun _ => rfl, fun j d hj => by omega⟩
    case round =>
      obtain ⟨k, x, hk, hk10, rfl, rfl, hx, hlead⟩ := hrel
      by_cases hlt : k < s.size ∧ k < 10
      · obtain ⟨hlt1, hlt2⟩ := hlt
        obtain rfl := hx (by omega)
        clear hx
        have Hg := Lib.hid (bs_at s k hlt1)
        have Hd := Lib.hid (digs_take_lt (l := bs s) (k := k) (by rw [bs_length]; omega))
        have hc256 := s[k].toNat_lt
        by_cases hc : s[k].toNat < 128
        · have Hl := Lib.hid (long_at Hg.out hlt2 hlead.out hc)
          by_cases hok : lastOk k s[k].toNat = true
          · have Ha := Lib.hid (acc_step (digs ((bs s).take k)) s[k].toNat k (by omega) (by omega) Hd.out (last_fits _ _ hc (by omega) hok))
            have HR : Hid (long (bs s) = (digs ((bs s).take k) + s[k].toNat % 128 * 128 ^ k, k + 1, 0)) := by
              show _ = _
              have h1 := Hl.out
              rw [if_pos hok] at h1; exact h1
            go_wp2_with (go_at_call 35; refine (isLastDigit_any _ _ _ hc hlt2).mono ?_; rintro e w1 ⟨rfl, rfl⟩)
            go_ret3
            refine ⟨?_, rfl⟩
            rw [HR.out]
            exact ret3 Ha.out rfl rfl
          · have hok2 : lastOk k s[k].toNat = false := by simpa using hok
            have HR : Hid (long (bs s) = (0, 0, 5)) := by
              show _ = _
              have h1 := Hl.out
              rw [if_neg hok] at h1; exact h1
            clear hok
            go_wp2_with (go_at_call 35; refine (isLastDigit_any _ _ _ hc hlt2).mono ?_; rintro e w1 ⟨rfl, rfl⟩)
            go_ret3
            refine ⟨?_, rfl⟩
            rw [HR.out]
            exact ret3 rfl rfl rfl
        · have R := Lib.hid (leads_more hlead.out Hg.out (by omega))
          go_wp2
          go_round
          case rel =>
            refine ⟨k + 1, _, by omega, by omega, by go_num, rfl, fun hk9 => ?_, R⟩
            rw [digs_at Hg.out]
            exact acc_step _ _ k (by omega) (by omega) Hd.out (digit_fits _ _ (by omega) (by omega))
          case measure => simp [intOf]; omega
      · have HR := Lib.hid (long_none (by rw [bs_length]; omega) hlead.out (by rw [bs_length]; omega))
        by_cases hs10 : s.size < 10
        all_goals
          first
          | (exfalso; omega)
          | (go_wp2
             go_ret3
             refine ⟨?_, rfl⟩
             have h1 := HR.out
             rw [bs_length] at h1
             first | rw [if_pos hs10] at h1 | rw [if_neg hs10] at h1
             rw [h1]
             exact ret3 rfl rfl rfl)
end Go.Proofs.Ytnjcpfbkcaeodaa
