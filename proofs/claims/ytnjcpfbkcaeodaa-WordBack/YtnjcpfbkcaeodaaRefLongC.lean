/-
  Contracts of the document's own Ends and Long: they come to the same as word.Long.
-/
import Derived.Test.YtnjcpfbkcaeodaaLongC
namespace Go.Proofs.Ytnjcpfbkcaeodaa
open Go.RowKit

/-- the size and the error that the document's Ends tells -/
def ends (l : List UInt8) : Nat × Nat := ((long l).2.1, (long l).2.2)

theorem ret2 {a b a' b' : Int} (h1 : a = a') (h2 : b = b') :
    Ending.returned (.tuple #[.int .i64 a, .int .i64 b]) = .returned (.tuple #[.int .i64 a', .int .i64 b']) := by rw [h1, h2]

theorem lastOk_eq (k c : Nat) : lastOk k c = !((decide (0 < k) && (c == 0)) || ((k == 9) && decide (1 < c))) := rfl

set_option maxRecDepth 100000 in
set_option maxHeartbeats 400000 in
theorem ends_any (s : ByteArray) (w : World) (hl : s.size ≤ 9223372036854775807) :
    Calls Try.prog 36 #[.string s] w fun e w' => e = .returned (.tuple #[.int .i64 (ends (bs s)).1, .int .i64 (ends (bs s)).2]) ∧ w = w' := by
  unfold ends
  go_enter Try.func36, Try.ntmps36
  go_wp2
  go_loop [4] (fun i => ∃ (k : Nat), k ≤ s.size ∧ k ≤ 10 ∧ i = .int .i64 k ∧ Hid (∀ j d, j < k → (bs s)[j]? = some d → 128 ≤ d.toNat)) (fun i => 10 - (intOf i).toNat)
  case atStart => exact ⟨0, by omega, by omega, rfl, fun j d hj => by omega⟩
  case round =>
    obtain ⟨k, hk, hk10, rfl, hlead⟩ := hrel
    by_cases hlt : k < s.size ∧ k < 10
    · obtain ⟨hlt1, hlt2⟩ := hlt
      have Hg := Lib.hid (bs_at s k hlt1)
      have hc256 := s[k].toNat_lt
      have hd1 : decide ((k : Int) < (s.size : Int)) = true := by simp; omega
      by_cases hc : s[k].toNat < 128
      · have Hl := Lib.hid (long_at Hg.out hlt2 hlead.out hc)
        by_cases h0 : k = 0
        · subst h0
          have HR : Hid (long (bs s) = (digs ((bs s).take 0) + s[0].toNat % 128 * 128 ^ 0, 0 + 1, 0)) := by
            show _ = _
            have h1 := Hl.out
            rw [if_pos (by simp [lastOk])] at h1; exact h1
          have hd : decide ((0 : Int) < ((0 : Nat) : Int)) = false := by simp
          have hd9 : (((0 : Nat) : Int) == 9) = false := by simp
          go_wp2
          go_ret2
          refine ⟨?_, rfl⟩
          rw [HR.out]
          exact ret2 rfl rfl
        have hd : decide ((0 : Int) < (k : Int)) = true := by simp; omega
        by_cases hz : s[k].toNat = 0
        · have HR : Hid (long (bs s) = (0, 0, 5)) := by
            show _ = _
            have h1 := Hl.out
            rw [if_neg (by simp [lastOk, hz]; omega)] at h1; exact h1
          have hz' : ((s[k].toNat : Int) == 0) = true := by simp [hz]
          clear hz
          go_wp2
          go_ret2
          refine ⟨?_, rfl⟩
          rw [HR.out]
          exact ret2 rfl rfl
        have hz' : ((s[k].toNat : Int) == 0) = false := by simp; omega
        by_cases h9 : k = 9
        · subst h9
          have hd9 : (((9 : Nat) : Int) == 9) = true := by simp
          by_cases h1c : 1 < s[9].toNat
          · have HR : Hid (long (bs s) = (0, 0, 5)) := by
              show _ = _
              have h1 := Hl.out
              rw [if_neg (by simp [lastOk]; omega)] at h1; exact h1
            have hg : decide ((1 : Int) < (s[9].toNat : Int)) = true := by simp; omega
            go_wp2
            go_ret2
            refine ⟨?_, rfl⟩
            rw [HR.out]
            exact ret2 rfl rfl
          · have HR : Hid (long (bs s) = (digs ((bs s).take 9) + s[9].toNat % 128 * 128 ^ 9, 9 + 1, 0)) := by
              show _ = _
              have h1 := Hl.out
              rw [if_pos (by simp [lastOk]; omega)] at h1; exact h1
            have hg : decide ((1 : Int) < (s[9].toNat : Int)) = false := by simp; omega
            go_wp2
            go_ret2
            refine ⟨?_, rfl⟩
            rw [HR.out]
            exact ret2 rfl rfl
        · have HR : Hid (long (bs s) = (digs ((bs s).take k) + s[k].toNat % 128 * 128 ^ k, k + 1, 0)) := by
            show _ = _
            have h1 := Hl.out
            rw [if_pos (by simp [lastOk]; omega)] at h1; exact h1
          have hd9 : ((k : Int) == 9) = false := by simp; omega
          go_wp2
          go_ret2
          refine ⟨?_, rfl⟩
          rw [HR.out]
          exact ret2 rfl rfl
      · have R := Lib.hid (leads_more hlead.out Hg.out (by omega))
        go_wp2
        go_round
        case rel => exact ⟨k + 1, by omega, by omega, by go_num, R⟩
        case measure => simp [intOf]; omega
    · have HR := Lib.hid (long_none (by rw [bs_length]; omega) hlead.out (by rw [bs_length]; omega))
      by_cases hs10 : s.size < 10
      · have hk2 : decide ((k : Int) < (s.size : Int)) = false := by simp; omega
        go_wp2
        go_ret2
        refine ⟨?_, rfl⟩
        have h1 := HR.out
        rw [bs_length, if_pos hs10] at h1
        rw [h1]
        exact ret2 rfl rfl
      · by_cases hk2 : k < s.size
        all_goals
          (first | (have hk3 : decide ((k : Int) < (s.size : Int)) = true := by simp; omega) | (have hk3 : decide ((k : Int) < (s.size : Int)) = false := by simp; omega))
          go_wp2
          go_ret2
          refine ⟨?_, rfl⟩
          have h1 := HR.out
          rw [bs_length, if_neg hs10] at h1
          rw [h1]
          exact ret2 rfl rfl

set_option maxRecDepth 100000 in
set_option maxHeartbeats 400000 in
theorem rlong_any (s : ByteArray) (w : World) (hl : s.size ≤ 9223372036854775807) :
    Calls Try.prog 19 #[.string s] w fun e w' => e = .returned (.tuple #[.int .u64 (long (bs s)).1, .int .i64 (long (bs s)).2.1, .int .i64 (long (bs s)).2.2]) ∧ w = w' := by
  have hlt := long_lt (bs s)
  have hsz := long_size (bs s)
  rw [bs_length] at hsz
  have Hends := Lib.hid (fun w => ends_any s w hl)
  by_cases he : (long (bs s)).2.2 = 0
  · have Hok := Lib.hid (long_ok (bs s) he)
    have Hpos := Lib.hid (long_pos (bs s) he)
    unfold ends at Hends
    have hp := Hpos.out
    generalize hm : (long (bs s)).2.1 = m at *
    generalize hn : (long (bs s)).1 = n at *
    generalize he2 : (long (bs s)).2.2 = e at *
    subst he
    have Hm := Lib.hid hm; clear hm
    have Hn := Lib.hid hn; clear hn
    have He := Lib.hid he2; clear he2
    go_enter Try.func19, Try.ntmps19
    go_wp2_with (go_at_call 36; refine (Hends.out _).mono ?_; rintro e w1 ⟨rfl, rfl⟩)
    go_loop [7, 8] (fun x i => ∃ j : Nat, j ≤ m ∧ i = .int .i64 ((j : Int) - 1) ∧ x = .int .u64 (digs (((bs s).take m).drop j))) (fun _ i => (intOf i + 1).toNat)
    case atStart =>
      refine ⟨m, by omega, rfl, ?_⟩
      rw [List.drop_eq_nil_of_le (by simp; omega)]; rfl
    case round =>
      obtain ⟨j, hj, rfl, rfl⟩ := hrel
      by_cases h0 : 0 < j
      · obtain ⟨i, rfl⟩ : ∃ i, j = i + 1 := ⟨j - 1, by omega⟩
        have hi : i < s.size := by omega
        have Hg : Hid (((bs s).take m)[i]? = some s[i]) := by
          show _ = _
          rw [List.getElem?_take, if_pos (by omega)]; exact bs_at s i hi
        have Hd := Lib.hid (digs_drop Hg.out)
        have hb := digs_drop_le ((bs s).take m) i
        have HB : digs (((bs s).take m).drop i) < 18446744073709551616 := by have := Hok.out; omega
        clear hb
        have HB2 : 128 * digs (((bs s).take m).drop (i + 1)) + s[i].toNat % 128 < 18446744073709551616 := by have := Hd.out; omega
        generalize hq : digs (((bs s).take m).drop (i + 1)) = q at *
        have Hq := Lib.hid hq; clear hq
        go_wp2
        go_round
        case rel => exact ⟨i, by omega, rfl, congrArg (Value.int .u64) (by rw [Hd.out]; omega)⟩
        case measure => simp [intOf]
      · obtain rfl : j = 0 := by omega
        go_wp2
        go_ret3
        exact ⟨ret3 (by rw [Hok.out]) rfl rfl, rfl⟩
  · have Herr := Lib.hid (long_err (bs s) he)
    have hb : (((long (bs s)).2.2 : Int) != 0) = true := by simp; omega
    unfold ends at Hends
    go_enter Try.func19, Try.ntmps19
    go_wp2_with (go_at_call 36; refine (Hends.out _).mono ?_; rintro e w1 ⟨rfl, rfl⟩)
    go_ret3
    refine ⟨?_, rfl⟩
    have h1 := Herr.out
    rw [h1.1, h1.2]
    exact ret3 rfl rfl rfl
end Go.Proofs.Ytnjcpfbkcaeodaa
