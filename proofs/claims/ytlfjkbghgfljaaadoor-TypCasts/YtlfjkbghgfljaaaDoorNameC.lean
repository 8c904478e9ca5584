/-
  Contracts of package name on names and their order: isLetter, isNameByte, Read, Right, sign, Order; and of the document's own letter, Part, Read, Right, Order.
-/
import Derived.Test.YtlfjkbghgfljaaaDoorWordNum
import Derived.Test.YtlfjkbghgfljaaaDoorStrs
import Derived.Test.YtlfjkbghgfljaaaDoorNameMath
import Derived.Deep.RegionWith
import Derived.BigQuiet
import Derived.Deep.QuietTactic
namespace Go.Proofs.YtlfjkbghgfljaaaDoor
open Go.RowKit

theorem retB {a b : Bool} (h : a = true ↔ b = true) : Ending.returned (Value.bool a) = .returned (.bool b) := by rw [Bool.eq_iff_iff.2 h]

set_option maxHeartbeats 400000 in
theorem isLetter_any (c : UInt8) (w : World) : Calls Tryd.prog 47 #[.int .u8 (c.toNat : Int)] w fun e w' => e = .returned (.bool (isL c)) ∧ w = w' := by
  obtain ⟨n, hn⟩ : ∃ n, n = c.toNat := ⟨_, rfl⟩
  have Hc : Hid (isL c = (decide (97 ≤ n) && decide (n ≤ 122))) := by show _ = _; rw [hn]; rfl
  rw [← hn]; clear hn
  go_enter Tryd.func47, Tryd.ntmps47
  go_wp2
  all_goals
    go_ret
    exact ⟨retB (by rw [Hc.out]; simp; omega), rfl⟩
set_option maxHeartbeats 400000 in
theorem letter_any (c : UInt8) (w : World) : Calls Tryd.prog 53 #[.int .u8 (c.toNat : Int)] w fun e w' => e = .returned (.bool (isL c)) ∧ w = w' := by
  obtain ⟨n, hn⟩ : ∃ n, n = c.toNat := ⟨_, rfl⟩
  have Hc : Hid (isL c = (decide (97 ≤ n) && decide (n ≤ 122))) := by show _ = _; rw [hn]; rfl
  rw [← hn]; clear hn
  go_enter Tryd.func53, Tryd.ntmps53
  go_wp2
  all_goals
    go_ret
    exact ⟨retB (by rw [Hc.out]; simp; omega), rfl⟩

set_option maxHeartbeats 800000 in
theorem isNameByte_any (c : UInt8) (w : World) : Calls Tryd.prog 48 #[.int .u8 (c.toNat : Int)] w fun e w' => e = .returned (.bool (isN c)) ∧ w = w' := by
  have hl := isLetter_any c w
  obtain ⟨n, hn⟩ : ∃ n, n = c.toNat := ⟨_, rfl⟩
  have Hc : Hid (isN c = (isL c || (decide (48 ≤ n) && decide (n ≤ 57)) || decide (n = 95))) := by show _ = _; rw [hn]; rfl
  rw [← hn] at hl ⊢; clear hn
  cases hL : isL c
  all_goals
    rw [hL] at hl
    rw [hL] at Hc
    have Hl := Lib.hid hl; clear hl
    go_enter Tryd.func48, Tryd.ntmps48
    go_wp2_with (go_at_call 47; refine Hl.out.mono ?_; rintro e w1 ⟨rfl, rfl⟩)
    all_goals
      go_ret
      exact ⟨retB (by rw [Hc.out]; simp; try omega), rfl⟩
set_option maxHeartbeats 800000 in
theorem Part_any (c : UInt8) (w : World) : Calls Tryd.prog 52 #[.int .u8 (c.toNat : Int)] w fun e w' => e = .returned (.bool (isN c)) ∧ w = w' := by
  have hl := letter_any c w
  obtain ⟨n, hn⟩ : ∃ n, n = c.toNat := ⟨_, rfl⟩
  have Hc : Hid (isN c = (isL c || (decide (48 ≤ n) && decide (n ≤ 57)) || decide (n = 95))) := by show _ = _; rw [hn]; rfl
  rw [← hn] at hl ⊢; clear hn
  cases hL : isL c
  all_goals
    rw [hL] at hl
    rw [hL] at Hc
    have Hl := Lib.hid hl; clear hl
    go_enter Tryd.func52, Tryd.ntmps52
    go_wp2_with (go_at_call 53; refine Hl.out.mono ?_; rintro e w1 ⟨rfl, rfl⟩)
    all_goals
      go_ret
      exact ⟨retB (by rw [Hc.out]; simp; try omega), rfl⟩

/-- all bytes ahead of place k may stand in a name -/
def AllN (l : List UInt8) (k : Nat) : Prop := ∀ x ∈ l.take k, isN x = true
theorem AllN.more {l : List UInt8} {k : Nat} {c : UInt8} (h : AllN l k) (hk : l[k]? = some c) (hc : isN c = true) : AllN l (k + 1) := by
  intro x hx
  rw [take_at hk] at hx
  rcases List.mem_append.1 hx with hx | hx
  · exact h x hx
  · simp at hx; subst hx; exact hc

set_option maxRecDepth 100000 in
set_option maxHeartbeats 800000 in
theorem nread_any (s : ByteArray) (w : World) (hs : s.size ≤ 1000000) : Calls Tryd.prog 36 #[.string s] w fun e w' => e = .returned (.int .i64 (rdN (bs s) : Nat)) ∧ w = w' := by
  by_cases h0 : s.size = 0
  · obtain rfl := is_empty s h0
    go_enter Tryd.func36, Tryd.ntmps36
    go_wp2_with fail
    go_ret
    exact ⟨rfl, rfl⟩
  · have hne := ne_empty s (by omega)
    have h0' : 0 < s.size := by omega
    have HR := Lib.hid (rdN_cons (bs_at s 0 h0'))
    cases hL : isL s[0]
    · rw [hL] at HR
      have hl := isLetter_any s[0] w
      rw [hL] at hl
      have Hl := Lib.hid hl; clear hl
      go_enter Tryd.func36, Tryd.ntmps36
      go_wp2_with (go_at_call 47; refine Hl.out.mono ?_; rintro e w1 ⟨rfl, rfl⟩)
      go_ret
      exact ⟨by rw [HR.out]; rfl, rfl⟩
    · rw [hL] at HR
      have hl := isLetter_any s[0] w
      rw [hL] at hl
      have Hl := Lib.hid hl; clear hl
      go_enter Tryd.func36, Tryd.ntmps36
      go_wp2_with (go_at_call 47; refine Hl.out.mono ?_; rintro e w1 ⟨rfl, rfl⟩)
      go_loop [14] (fun i => ∃ k : Nat, k ≤ s.size ∧ i = .int .i64 k ∧ Hid (AllN (bs s) k)) (fun i => s.size - (intOf i).toNat)
      case atStart => exact ⟨0, by omega, rfl, fun x hx => by cases hx⟩
      case round =>
        obtain ⟨k, hk, rfl, hall⟩ := hrel
        by_cases hlt : k < s.size
        · have Hat := Lib.hid (bs_at s k hlt)
          have hn := isNameByte_any s[k] w
          cases hN : isN s[k]
          · rw [hN] at hn
            have Hn := Lib.hid hn; clear hn
            have Hv : Hid (rdN (bs s) = k) := by
              show _ = _
              rw [HR.out]; exact runN_eq hall.out Hat.out hN
            go_wp2_with (go_at_call 48; refine Hn.out.mono ?_; rintro e w1 ⟨rfl, rfl⟩)
            go_ret
            exact ⟨by rw [Hv.out]; rfl, rfl⟩
          · rw [hN] at hn
            have Hn := Lib.hid hn; clear hn
            have Hm := Lib.hid (hall.out.more Hat.out hN)
            go_wp2_with (go_at_call 48; refine Hn.out.mono ?_; rintro e w1 ⟨rfl, rfl⟩)
            go_round
            case rel => exact ⟨k + 1, by omega, by go_num, Hm.out⟩
            case measure => simp [intOf]; omega
        · have Hv : Hid (rdN (bs s) = s.size) := by
            show _ = _
            rw [HR.out, ← bs_length]
            refine runN_all fun x hx => hall.out x ?_
            rw [List.take_of_length_le (by rw [bs_length]; omega)]; exact hx
          go_wp2
          go_ret
          exact ⟨by rw [Hv.out]; rfl, rfl⟩

set_option maxRecDepth 100000 in
set_option maxHeartbeats 800000 in
theorem nrread_any (s : ByteArray) (w : World) (hs : s.size ≤ 1000000) : Calls Tryd.prog 39 #[.string s] w fun e w' => e = .returned (.int .i64 (rdN (bs s) : Nat)) ∧ w = w' := by
  go_enter Tryd.func39, Tryd.ntmps39
  go_wp2_with fail
  go_loop [3] (fun i => ∃ k : Nat, k ≤ s.size ∧ i = .int .i64 k ∧ Hid (AllN (bs s) k) ∧ Hid (0 < k → ∃ c, (bs s)[0]? = some c ∧ isL c = true)) (fun i => s.size - (intOf i).toNat)
  case atStart => exact ⟨0, by omega, rfl, fun x hx => (by cases hx), fun h => absurd h (by omega)⟩
  case round =>
    obtain ⟨k, hk, rfl, hall, hfirst⟩ := hrel
    by_cases hlt : k < s.size
    · have Hat := Lib.hid (bs_at s k hlt)
      have h0' : 0 < s.size := by omega
      have HR := Lib.hid (rdN_cons (bs_at s 0 h0'))
      have HN := fun w => Part_any s[k] w
      have HL := fun w => letter_any s[0] w
      cases hN : isN s[k]
      · have Hv : Hid (rdN (bs s) = k) := by
          show _ = _
          by_cases hk0 : k = 0
          · subst hk0
            rw [HR.out]
            have : isL s[0] = false := by
              cases hL : isL s[0]
              · rfl
              · rw [isN_of_isL hL] at hN; cases hN
            rw [this]; rfl
          · obtain ⟨c, h1, h2⟩ := hfirst.out (by omega)
            rw [rdN_cons h1, h2]; exact runN_eq hall.out Hat.out hN
        have HN' := HN w; rw [hN] at HN'
        have Hn := Lib.hid HN'; clear HN' HN HL
        go_wp2_with (go_at_call 52; refine Hn.out.mono ?_; rintro e w1 ⟨rfl, rfl⟩)
        go_ret
        exact ⟨by rw [Hv.out]; rfl, rfl⟩
      · have HN' := HN w; rw [hN] at HN'
        have Hn := Lib.hid HN'; clear HN' HN
        have Hm := Lib.hid (hall.out.more Hat.out hN)
        by_cases hk0 : k = 0
        · subst hk0
          have HL' := HL w
          cases hL : isL s[0]
          · rw [hL] at HL'
            have Hl := Lib.hid HL'; clear HL' HL
            have Hv : Hid (rdN (bs s) = 0) := by show _ = _; rw [HR.out, hL]; rfl
            go_wp2_with (first | (go_at_call 52; refine Hn.out.mono ?_; rintro e w1 ⟨rfl, rfl⟩) | (go_at_call 53; refine Hl.out.mono ?_; rintro e w1 ⟨rfl, rfl⟩))
            go_ret
            exact ⟨by rw [Hv.out]; rfl, rfl⟩
          · rw [hL] at HL'
            have Hl := Lib.hid HL'; clear HL' HL
            have HF : Hid (∃ c, (bs s)[0]? = some c ∧ isL c = true) := ⟨_, Hat.out, hL⟩
            go_wp2_with (first | (go_at_call 52; refine Hn.out.mono ?_; rintro e w1 ⟨rfl, rfl⟩) | (go_at_call 53; refine Hl.out.mono ?_; rintro e w1 ⟨rfl, rfl⟩))
            go_round
            case rel => exact ⟨1, by omega, by go_num, Hm.out, fun _ => HF.out⟩
            case measure => simp [intOf]; omega
        · have d1 : decide ((0 : Int) < (k : Int)) = true := by simp; omega
          clear HL
          go_wp2_with (go_at_call 52; refine Hn.out.mono ?_; rintro e w1 ⟨rfl, rfl⟩)
          go_round
          case rel => exact ⟨k + 1, by omega, by go_num, Hm.out, fun _ => hfirst.out (by omega)⟩
          case measure => simp [intOf]; omega
    · have Hv : Hid (rdN (bs s) = k) := by
        show _ = _
        have hk2 : k = (bs s).length := by rw [bs_length]; omega
        by_cases hk0 : k = 0
        · have : bs s = [] := List.eq_nil_of_length_eq_zero (by omega)
          rw [this, hk0]; rfl
        · obtain ⟨c, h1, h2⟩ := hfirst.out (by omega)
          rw [rdN_cons h1, h2, hk2]
          refine runN_all fun x hx => hall.out x ?_
          rw [List.take_of_length_le (by omega)]; exact hx
      go_wp2
      go_ret
      exact ⟨by rw [Hv.out]; rfl, rfl⟩

theorem rightN_of {l : List UInt8} (h0 : 0 < l.length) (h1 : l.length ≤ 16) : rightN l = decide (rdN l = l.length) := by simp [rightN, h0, h1]
theorem rightN_long {l : List UInt8} (h1 : 16 < l.length) : rightN l = false := by
  have : decide (l.length ≤ 16) = false := by simp; omega
  simp [rightN, this]
end Go.Proofs.YtlfjkbghgfljaaaDoor
