/-
  Contract of the document's own number of layer 7.
-/
import Derived.Test.YtbbdmphclnnejaaDoorSkRestC
import Derived.Test.YtbbdmphclnnejaaDoorSkRefC
namespace Go.Proofs.YtbbdmphclnnejaaDoor
open Go.RowKit

theorem get_back {s : ByteArray} {k : Nat} (h : (bs s).length = k) : get (bs (⟨(bs s).reverse.toArray⟩ : ByteArray)) k = (unbe (bs s), 0) := by
  rw [bs_mk (bs s).reverse]
  unfold get unbe
  rw [List.length_reverse, h, if_neg (by omega), if_neg (by omega)]
theorem mid_bs (s : ByteArray) (k : Nat) (t : List UInt8) (c : UInt8) (h : bs s = c :: t) : bs (s.extract 1 (k + 1)) = t.take k := by
  rw [bs_extract, h]; rfl

set_option maxRecDepth 100000 in
set_option maxHeartbeats 800000 in
theorem rnum1 (s : ByteArray) (t : List UInt8) (w : World) (hs : s.size ≤ 1000000) (hc : bs s = 1 :: t) : Calls Tryd.prog 27 #[.string s, .int .i64 1, .int .i64 4] w fun e w' => e = .returned (skV (readK (bs s))) ∧ Below w.heap.size w w' := by
  have hlen : s.size = t.length + 1 := by rw [← bs_length, hc]; rfl
  have Hv : Hid (skV (readK (bs s)) = skV (if t.length < 4 then (noV, 0, 4) else ((1, (unbe (t.take 4) : Int) - 2147483648, []), 5, 0))) := by show _ = _; rw [hc, readK_1]
  generalize skV (readK (bs s)) = R at Hv
  by_cases h : t.length < 4
  · rw [if_pos h] at Hv
    have d : decide ((s.size : Int) < 5) = true := by simp; omega
    go_enter Tryd.func27, Tryd.ntmps27
    go_wp2_with fail
    go_returns
    exact ⟨by rw [Hv.out]; rfl, by go_grown⟩
  · rw [if_neg h] at Hv
    have d : decide ((s.size : Int) < 5) = false := by simp; omega
    have hmid := mid_bs s 4 t 1 hc
    have hml : (bs (s.extract 1 (4 + 1))).length = 4 := by rw [hmid, List.length_take]; omega
    have HB := Lib.hid (fun w => rback_any (s.extract 1 5) w (by rw [← bs_length, hml]; omega))
    have HG := Lib.hid (fun w => rget_any ⟨(bs (s.extract 1 5)).reverse.toArray⟩ 4 w (by omega) (by rw [ba_size, List.length_reverse, hml]; omega))
    rw [get_back hml, hmid] at HG
    rw [hmid] at HB
    have hlt := unbe_lt (t.take 4)
    rw [List.length_take, Nat.min_eq_left (by omega)] at hlt
    simp only [Nat.reducePow] at hlt
    generalize unbe (t.take 4) = x at HG Hv hlt
    generalize (⟨(t.take 4).reverse.toArray⟩ : ByteArray) = S at HB HG
    have h5 : 5 ≤ s.size := by omega
    clear hmid hml hc hlen h
    go_enter Tryd.func27, Tryd.ntmps27
    go_wp2_with fail
    refine (HB.out _).mono ?_
    rintro e w1 ⟨rfl, rfl⟩
    go_wp2_with fail
    refine (HG.out _).mono ?_
    rintro e w1 ⟨rfl, rfl⟩
    go_wp2_with fail
    go_returns
    exact ⟨by rw [Hv.out]; rfl, by go_grown⟩

set_option maxRecDepth 100000 in
set_option maxHeartbeats 800000 in
theorem rnum2 (s : ByteArray) (t : List UInt8) (w : World) (hs : s.size ≤ 1000000) (hc : bs s = 2 :: t) : Calls Tryd.prog 27 #[.string s, .int .i64 2, .int .i64 8] w fun e w' => e = .returned (skV (readK (bs s))) ∧ Below w.heap.size w w' := by
  have hlen : s.size = t.length + 1 := by rw [← bs_length, hc]; rfl
  have Hv : Hid (skV (readK (bs s)) = skV (if t.length < 8 then (noV, 0, 4) else ((2, (unbe (t.take 8) : Int) - 9223372036854775808, []), 9, 0))) := by show _ = _; rw [hc, readK_2]
  generalize skV (readK (bs s)) = R at Hv
  by_cases h : t.length < 8
  · rw [if_pos h] at Hv
    have d : decide ((s.size : Int) < 9) = true := by simp; omega
    go_enter Tryd.func27, Tryd.ntmps27
    go_wp2_with fail
    go_returns
    exact ⟨by rw [Hv.out]; rfl, by go_grown⟩
  · rw [if_neg h] at Hv
    have d : decide ((s.size : Int) < 9) = false := by simp; omega
    have hmid := mid_bs s 8 t 2 hc
    have hml : (bs (s.extract 1 (8 + 1))).length = 8 := by rw [hmid, List.length_take]; omega
    have HB := Lib.hid (fun w => rback_any (s.extract 1 9) w (by rw [← bs_length, hml]; omega))
    have HG := Lib.hid (fun w => rget_any ⟨(bs (s.extract 1 9)).reverse.toArray⟩ 8 w (by omega) (by rw [ba_size, List.length_reverse, hml]; omega))
    rw [get_back hml, hmid] at HG
    rw [hmid] at HB
    have hlt := unbe_lt (t.take 8)
    rw [List.length_take, Nat.min_eq_left (by omega)] at hlt
    simp only [Nat.reducePow] at hlt
    generalize unbe (t.take 8) = x at HG Hv hlt
    generalize (⟨(t.take 8).reverse.toArray⟩ : ByteArray) = S at HB HG
    have h5 : 9 ≤ s.size := by omega
    clear hmid hml hc hlen h
    by_cases hx : 9223372036854775808 ≤ x
    · have dx : decide ((9223372036854775808 : Int) ≤ (x : Int)) = true := by simp; omega
      have q1 : (0 : Int) ≤ (x : Int) - 9223372036854775808 := by omega
      have q2 : (x : Int) - 9223372036854775808 < 9223372036854775808 := by omega
      clear hx hlt
      go_enter Tryd.func27, Tryd.ntmps27
      go_wp2_with fail
      refine (HB.out _).mono ?_
      rintro e w1 ⟨rfl, rfl⟩
      go_wp2_with fail
      refine (HG.out _).mono ?_
      rintro e w1 ⟨rfl, rfl⟩
      go_wp2_with fail
      go_returns
      exact ⟨by rw [Hv.out]; rfl, by go_grown⟩
    · have dx : decide ((9223372036854775808 : Int) ≤ (x : Int)) = false := by simp; omega
      have hy : x < 9223372036854775808 := by omega
      clear hx hlt
      go_enter Tryd.func27, Tryd.ntmps27
      go_wp2_with fail
      refine (HB.out _).mono ?_
      rintro e w1 ⟨rfl, rfl⟩
      go_wp2_with fail
      refine (HG.out _).mono ?_
      rintro e w1 ⟨rfl, rfl⟩
      go_wp2_with fail
      go_returns
      exact ⟨by rw [Hv.out, show (x : Int) - 9223372036854775808 = (x : Int) - 9223372036854775807 - 1 by omega]; rfl, by go_grown⟩
end Go.Proofs.YtbbdmphclnnejaaDoor
