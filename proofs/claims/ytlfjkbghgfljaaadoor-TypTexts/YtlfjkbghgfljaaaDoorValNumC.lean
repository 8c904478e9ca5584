/-
  Contracts of package value's isDigit, leadingDigits, compose, Number.
-/
import Derived.Test.YtlfjkbghgfljaaaDoorValC
namespace Go.Proofs.YtlfjkbghgfljaaaDoor
open Go.RowKit

set_option maxHeartbeats 400000 in
theorem isDigit_any (c : UInt8) (w : World) : Calls Tryd.prog 65 #[.int .u8 (c.toNat : Int)] w fun e w' => e = .returned (.bool (isD c)) ∧ w = w' := by
  obtain ⟨n, hn⟩ : ∃ n, n = c.toNat := ⟨_, rfl⟩
  have Hc : Hid (isD c = (decide (48 ≤ n) && decide (n ≤ 57))) := by show _ = _; rw [hn]; rfl
  rw [← hn]; clear hn
  go_enter Tryd.func65, Tryd.ntmps65
  go_wp2
  all_goals
    go_ret
    exact ⟨retB (by rw [Hc.out]; simp; omega), rfl⟩

/-- all bytes ahead of place k are digits -/
def DigTo (l : List UInt8) (k : Nat) : Prop := ∀ x ∈ l.take k, isD x = true
theorem DigTo.more {l : List UInt8} {k : Nat} {c : UInt8} (h : DigTo l k) (hk : l[k]? = some c) (hc : isD c = true) : DigTo l (k + 1) := by
  intro x hx
  rw [take_at hk] at hx
  rcases List.mem_append.1 hx with hx | hx
  · exact h x hx
  · simp at hx; subst hx; exact hc
theorem DigTo.stop {l : List UInt8} {k : Nat} {c : UInt8} (h : DigTo l k) (hk : l[k]? = some c) (hc : isD c = false) : ldD l = l.take k :=
  ldD_stop h (fun d hd => by rw [hk] at hd; cases hd; exact hc) (by have := (List.getElem?_eq_some_iff.1 hk).1; omega)
theorem DigTo.full {l : List UInt8} (h : DigTo l l.length) : ldD l = l := by
  have := ldD_stop h (fun d hd => by rw [List.getElem?_eq_none (Nat.le_refl _)] at hd; cases hd) (Nat.le_refl _)
  rwa [List.take_length] at this

set_option maxRecDepth 100000 in
set_option maxHeartbeats 800000 in
theorem leading_any (s : ByteArray) (w : World) (hs : s.size ≤ 1000000) : Calls Tryd.prog 60 #[.string s] w fun e w' => e = .returned (.string ⟨(ldD (bs s)).toArray⟩) ∧ w = w' := by
  go_enter Tryd.func60, Tryd.ntmps60
  go_wp2_with fail
  go_loop [6] (fun i => ∃ k : Nat, k ≤ s.size ∧ i = .int .i64 k ∧ Hid (DigTo (bs s) k)) (fun i => s.size - (intOf i).toNat)
  case atStart => exact ⟨0, by omega, rfl, fun x hx => by cases hx⟩
  case round =>
    obtain ⟨k, hk, rfl, hall⟩ := hrel
    by_cases hlt : k < s.size
    · have Hat := Lib.hid (bs_at s k hlt)
      have hn := isDigit_any s[k] w
      cases hN : isD s[k]
      · rw [hN] at hn
        have Hn := Lib.hid hn; clear hn
        have Hv : Hid (s.extract 0 k = ⟨(ldD (bs s)).toArray⟩) := by
          show _ = _
          refine bs_eq ?_
          rw [bs_front]
          exact (hall.out.stop Hat.out hN).symm
        go_wp2_with (go_at_call 65; refine Hn.out.mono ?_; rintro e w1 ⟨rfl, rfl⟩)
        go_ret
        exact ⟨by rw [← Hv.out]; rfl, rfl⟩
      · rw [hN] at hn
        have Hn := Lib.hid hn; clear hn
        have Hm := Lib.hid (hall.out.more Hat.out hN)
        go_wp2_with (go_at_call 65; refine Hn.out.mono ?_; rintro e w1 ⟨rfl, rfl⟩)
        go_round
        case rel => exact ⟨k + 1, by omega, by go_num, Hm.out⟩
        case measure => simp [intOf]; omega
    · have Hv : Hid (s = ⟨(ldD (bs s)).toArray⟩) := by
        show _ = _
        refine bs_eq ?_
        have hk2 : k = (bs s).length := by rw [bs_length]; omega
        have h2 := hall.out
        rw [hk2] at h2
        exact h2.full.symm
      go_wp2
      go_ret
      exact ⟨congrArg (fun x => Ending.returned (.string x)) Hv.out, rfl⟩

/-- does the number fit? -/
def fits64 (z : Int) : Bool := decide (-9223372036854775808 ≤ z) && decide (z < 9223372036854775808)
theorem fits64_iff (z : Int) : fits64 z = true ↔ -9223372036854775808 ≤ z ∧ z < 9223372036854775808 := by simp [fits64]
/-- one sign, or none -/
def stN (neg : Bool) : Nat := if neg then 1 else 0
def CompV (st : Nat) (l : List UInt8) (w : World) (e : Ending) (w' : World) : Prop := ∃ z, e = .returned (.tuple #[.int .i64 z, .bool (fits64 (numZ st l))]) ∧ (fits64 (numZ st l) = true → z = numZ st l) ∧ w = w'
theorem long_no {l : List UInt8} (h : Can l) (hl : 19 < l.length) (st : Nat) : fits64 (numZ st l) = false := by
  have h0 : l[0]? ≠ some 48 := fun e => by have := h.2.2 e; omega
  have h1 := dv_ge (l.length - 1) l h h0 (by omega)
  have h2 : 10 ^ 19 ≤ 10 ^ (l.length - 1) := Nat.pow_le_pow_right (by omega) (by omega)
  have h3 : 10000000000000000000 ≤ dv l := Nat.le_trans h2 h1
  cases hb : fits64 (numZ st l)
  · rfl
  · rw [fits64_iff] at hb
    unfold numZ at hb
    split at hb <;> omega
theorem dv_bound {l : List UInt8} (h : AllD l) {k : Nat} (hk : k ≤ l.length) (n : Nat) (hn : k ≤ n) : dv (l.take k) < 10 ^ n := by
  have h1 := dv_lt k (l.take k) (fun x hx => h x (List.mem_of_mem_take hx)) (by simp; omega)
  exact Nat.lt_of_lt_of_le h1 (Nat.pow_le_pow_right (by omega) hn)

set_option maxRecDepth 100000 in
set_option maxHeartbeats 800000 in
theorem compose_any (s : ByteArray) (neg : Bool) (w : World) (hc : Can (bs s)) (hs : s.size ≤ 1000000) : Calls Tryd.prog 61 #[.string s, .bool neg] w fun e w' => CompV (stN neg) (bs s) w e w' := by
  by_cases hl : 19 < s.size
  · have Hv := Lib.hid (long_no hc (by rw [bs_length]; exact hl) (stN neg))
    have d : decide (19 < (s.size : Int)) = true := by simp; omega
    go_enter Tryd.func61, Tryd.ntmps61
    go_wp2_with fail
    go_ret2
    exact ⟨0, by rw [Hv.out]; rfl, (fun h => by rw [Hv.out] at h; cases h), rfl⟩
  · have d : decide (19 < (s.size : Int)) = false := by simp; omega
    have HA := Lib.hid hc.2.1; clear hc
    go_enter Tryd.func61, Tryd.ntmps61
    go_wp2_with fail
    go_loop [6, 13] (fun m i => ∃ k q : Nat, k ≤ s.size ∧ i = .int .i64 k ∧ m = .int .u64 q ∧ Hid (q = dv ((bs s).take k))) (fun _ i => s.size - (intOf i).toNat)
    case atStart => exact ⟨0, 0, by omega, rfl, rfl, by show _ = _; simp [dv]⟩
    case round =>
      obtain ⟨k, q, hk, rfl, rfl, hq⟩ := hrel
      by_cases hlt : k < s.size
      · have Hat := Lib.hid (bs_at s k hlt)
        have hq1 : q < 1000000000000000000 := by
          rw [hq.out]; exact dv_bound HA.out (by rw [bs_length]; omega) 18 (by omega)
        have hd := (isD_iff s[k]).1 (HA.out s[k] (by
          obtain ⟨h1, h2⟩ := List.getElem?_eq_some_iff.1 Hat.out
          rw [← h2]; exact List.getElem_mem h1))
        have Hn : Hid (10 * q + (s[k].toNat - 48) = dv ((bs s).take (k + 1))) := by
          show _ = _
          rw [take_at Hat.out, dv_snoc, hq.out]
        obtain ⟨hd1, hd2⟩ := hd
        go_wp2_with fail
        go_round
        case rel => exact ⟨k + 1, 10 * q + (s[k].toNat - 48), by omega, by go_num, by go_num, Hn.out⟩
        case measure => simp [intOf]; omega
      · have hq1 : q < 10000000000000000000 := by
          rw [hq.out]; exact dv_bound HA.out (by rw [bs_length]; omega) 19 (by omega)
        have Hn : Hid (q = dv (bs s)) := by
          show _ = _
          rw [hq.out, List.take_of_length_le (by rw [bs_length]; omega)]
        cases neg
        · have Hv : Hid (numZ (stN false) (bs s) = q) := by show numZ 0 _ = _; rw [Hn.out]; rfl
          by_cases hb : q ≤ 9223372036854775807
          · have d2 : decide ((q : Int) ≤ 9223372036854775807) = true := by simp; omega
            have Hf : Hid (fits64 (q : Int) = true) := by show _ = _; rw [fits64_iff]; omega
            go_wp2_with fail
            go_ret2
            exact ⟨q, by rw [Hv.out, Hf.out]; rfl, (fun _ => Hv.out.symm), rfl⟩
          · have d2 : decide ((q : Int) ≤ 9223372036854775807) = false := by simp; omega
            have Hf : Hid (fits64 (q : Int) = false) := by
              show _ = _
              cases hb2 : fits64 (q : Int)
              · rfl
              · rw [fits64_iff] at hb2; omega
            go_wp2_with fail
            go_ret2
            exact ⟨_, by rw [Hv.out, Hf.out]; rfl, (fun h => by rw [Hv.out, Hf.out] at h; cases h), rfl⟩
        · have Hv : Hid (numZ (stN true) (bs s) = -q) := by show numZ 1 _ = _; rw [Hn.out]; rfl
          by_cases hb : q ≤ 9223372036854775808
          · have d2 : decide ((q : Int) ≤ 9223372036854775808) = true := by simp; omega
            have Hf : Hid (fits64 (-(q : Int)) = true) := by show _ = _; rw [fits64_iff]; omega
            have Hw : Hid (wrap64 (IntKind.u64.wrap (-(q : Int))) = -(q : Int)) := by show _ = _; go_arith
            go_wp2_with fail
            go_ret2
            exact ⟨wrap64 (IntKind.u64.wrap (-(q : Int))), by rw [Hv.out, Hf.out]; rfl, (fun _ => Hw.out.trans Hv.out.symm), rfl⟩
          · have d2 : decide ((q : Int) ≤ 9223372036854775808) = false := by simp; omega
            have Hf : Hid (fits64 (-(q : Int)) = false) := by
              show _ = _
              cases hb2 : fits64 (-(q : Int))
              · rfl
              · rw [fits64_iff] at hb2; omega
            go_wp2_with fail
            go_ret2
            exact ⟨_, by rw [Hv.out, Hf.out]; rfl, (fun h => by rw [Hv.out, Hf.out] at h; cases h), rfl⟩
end Go.Proofs.YtlfjkbghgfljaaaDoor
