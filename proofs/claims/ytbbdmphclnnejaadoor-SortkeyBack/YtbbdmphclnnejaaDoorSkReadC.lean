/-
  Contracts of package sortkey: readNumber, readString, checkContent.
-/
import Derived.Test.YtbbdmphclnnejaaDoorSkOfC
import Derived.Test.YtbbdmphclnnejaaDoorUtfAllC
namespace Go.Proofs.YtbbdmphclnnejaaDoor
open Go.RowKit

set_option maxRecDepth 100000 in
set_option maxHeartbeats 400000 in
theorem rdNum_short (s : ByteArray) (size : Nat) (w : World) (h : s.size < size) (_ : size ≤ 8) :
    Calls Tryd.prog 38 #[.string s, .int .i64 size] w fun e w' => e = .returned (.tuple #[.int .u64 0, .int .i64 4]) ∧ w = w' := by
  go_enter Tryd.func38, Tryd.ntmps38
  go_wp2_with fail
  go_ret2
  exact ⟨rfl, rfl⟩
set_option maxRecDepth 100000 in
set_option maxHeartbeats 400000 in
theorem rdNum_any (s : ByteArray) (size T : Nat) (w : World) (hT : ∀ w, Calls Tryd.prog 47 #[.int .i64 size] w fun e w' => e = .returned (.int .u64 T) ∧ w = w') (hTl : T < 18446744073709551616)
    (h : size ≤ s.size) (hs : s.size ≤ 1000000) (hsz : size ≤ 8) :
    Calls Tryd.prog 38 #[.string s, .int .i64 size] w fun e w' => e = .returned (.tuple #[.int .u64 ((unbe ((bs s).take size) ^^^ T : Nat) : Int), .int .i64 0]) ∧ w = w' := by
  have HT := Lib.hid hT; clear hT
  have HTl := Lib.hid hTl; clear hTl
  have hn : ¬ s.size < size := by omega
  go_enter Tryd.func38, Tryd.ntmps38
  go_wp2_with fail
  go_loop [6, 13] (fun x i => ∃ (k q : Nat), k ≤ size ∧ i = .int .i64 k ∧ x = .int .u64 q ∧ Hid (q = unbe ((bs s).take k))) (fun _ i => size - (intOf i).toNat)
  case atStart => exact ⟨0, 0, by omega, rfl, rfl, rfl⟩
  case round =>
    obtain ⟨k, q, hk, rfl, rfl, Hq⟩ := hrel
    by_cases hlt : k < size
    · have hks : k < s.size := by omega
      have Hb : Hid (q < 72057594037927936) := by
        show _ < _
        have h1 := unbe_lt ((bs s).take k)
        rw [List.length_take, bs_length, Nat.min_eq_left (by omega)] at h1
        have h2 : (256 : Nat) ^ k ≤ 256 ^ 7 := Nat.pow_le_pow_right (by omega) (by omega)
        have h3 := Hq.out
        simp only [Nat.reducePow] at h2
        omega
      have hor := or_low q s[k].toNat s[k].toNat_lt Hb.out
      have Hn : Hid (q * 256 + s[k].toNat = unbe ((bs s).take (k + 1))) := by
        show _ = _
        rw [unbe_take (bs_at s k hks), ← Hq.out]
      have Hor : Hid (bits .or .u64 (IntKind.u64.wrap ((q : Int) * 256)) (IntKind.u64.wrap (s[k].toNat : Int)) = ((q * 256 + s[k].toNat : Nat) : Int)) := by
        show _ = _
        rw [← hor]
        have := s[k].toNat_lt
        rw [IntKind.wrap_u64 (s[k].toNat : Int), show (s[k].toNat : Int) % 18446744073709551616 = (s[k].toNat : Int) by omega]
      clear hor
      go_wp2_with fail
      go_round
      case rel => exact ⟨k + 1, _, by omega, by go_num, congrArg (Value.int .u64) Hor.out, Hn.out⟩
      case measure => simp [intOf]; omega
    · obtain rfl : k = size := by omega
      have Hx : Hid (bits .xor .u64 (q : Int) (T : Int) = ((unbe ((bs s).take k) ^^^ T : Nat) : Int)) := by
        show _ = _
        rw [← Hq.out]
        refine bits_xor_u64_nat q T ?_ HTl.out
        have h1 := unbe_lt ((bs s).take k)
        rw [List.length_take, bs_length, Nat.min_eq_left (by omega)] at h1
        have h2 : (256 : Nat) ^ k ≤ 256 ^ 8 := Nat.pow_le_pow_right (by omega) (by omega)
        have h3 := Hq.out
        simp only [Nat.reducePow] at h2
        omega
      go_wp2_with fail
      refine (HT.out _).mono ?_
      rintro e w1 ⟨rfl, rfl⟩
      go_wp2_with fail
      go_ret2
      exact ⟨by rw [← Hx.out]; rfl, rfl⟩

/-- the first k bytes, of which acc was made, ahead of what the rest is -/
def scanP (acc : List UInt8) (k : Nat) (q : List UInt8 × Nat × Nat) : List UInt8 × Nat × Nat := (acc ++ q.1, q.2.1 + k, q.2.2)
/-- what readString returns -/
def strV (q : List UInt8 × Nat × Nat) : Value := if q.2.2 = 0 then .tuple #[.string ⟨q.1.toArray⟩, .int .i64 (q.2.1 : Nat), .int .i64 0] else .tuple #[.string ⟨#[]⟩, .int .i64 0, .int .i64 (q.2.2 : Nat)]
theorem scan_nx {l acc : List UInt8} {k : Nat} {c : UInt8} (h : scan l = scanP acc k (scan (l.drop k))) (hk : l[k]? = some c) (hc : c ≠ 0) : scan l = scanP (acc ++ [c]) (k + 1) (scan (l.drop (k + 1))) := by
  rw [h, drop_at hk, scan_cons _ hc]
  simp [scanP]; omega
theorem scan_nm {l acc : List UInt8} {k : Nat} {c d : UInt8} (h : scan l = scanP acc k (scan (l.drop k))) (hk : l[k]? = some c) (hc : c = 0) (hk2 : l[k + 1]? = some d) (hd : d = 255) : scan l = scanP (acc ++ [0]) (k + 2) (scan (l.drop (k + 2))) := by
  rw [h, drop_at hk, drop_at hk2, hc, hd, scan_mark, show k + 1 + 1 = k + 2 by omega]
  simp [scanP]; omega
theorem scan_ne {l acc : List UInt8} {k : Nat} {c d : UInt8} (h : scan l = scanP acc k (scan (l.drop k))) (hk : l[k]? = some c) (hc : c = 0) (hk2 : l[k + 1]? = some d) (hd : d = 0) : strV (scan l) = .tuple #[.string ⟨acc.toArray⟩, .int .i64 ((k + 2 : Nat) : Int), .int .i64 0] := by
  rw [h, drop_at hk, drop_at hk2, hc, hd, scan_end]
  simp [scanP, strV]; omega
theorem scan_nb {l acc : List UInt8} {k : Nat} {c d : UInt8} (h : scan l = scanP acc k (scan (l.drop k))) (hk : l[k]? = some c) (hc : c = 0) (hk2 : l[k + 1]? = some d) (hd : d ≠ 0) (hd2 : d ≠ 255) : strV (scan l) = .tuple #[.string ⟨#[]⟩, .int .i64 0, .int .i64 5] := by
  rw [h, drop_at hk, drop_at hk2, hc, scan_bad _ hd2 hd]
  rfl
theorem scan_nc {l acc : List UInt8} {k : Nat} {c : UInt8} (h : scan l = scanP acc k (scan (l.drop k))) (hk : l[k]? = some c) (hc : c = 0) (hl : l.length = k + 1) : strV (scan l) = .tuple #[.string ⟨#[]⟩, .int .i64 0, .int .i64 4] := by
  rw [h, drop_at hk, hc, List.drop_eq_nil_of_le (by omega), scan_cut]
  rfl
theorem scan_nd {l acc : List UInt8} {k : Nat} (h : scan l = scanP acc k (scan (l.drop k))) (hl : l.length ≤ k) : strV (scan l) = .tuple #[.string ⟨#[]⟩, .int .i64 0, .int .i64 4] := by
  rw [h, List.drop_eq_nil_of_le hl, scan_nil]
  rfl

set_option maxRecDepth 100000 in
set_option maxHeartbeats 800000 in
theorem rdStr_any (s : ByteArray) (w : World) (hs : s.size ≤ 1000000) :
    Calls Tryd.prog 39 #[.string s] w fun e w' => e = .returned (strV (scan (bs s))) ∧ Below w.heap.size w w' := by
  have Hlen0 := Lib.hid (bs_length s)
  go_enter Tryd.func39, Tryd.ntmps39
  go_wp2_with fail
  go_loopw [5, 6] (fun v i wr => ∃ (k : Nat) (acc : List UInt8), k ≤ s.size ∧ i = .int .i64 k ∧ Hid (OwnB wr w.heap.size v acc) ∧ Hid (acc.length ≤ k) ∧ Hid (scan (bs s) = scanP acc k (scan ((bs s).drop k))) ∧ Below w.heap.size w wr) (fun _ i _ => s.size - (intOf i).toNat)
  case atStart => exact ⟨0, [], by omega, rfl, OwnB.nil _ _, Nat.le_refl 0, rfl, Below.refl _ _⟩
  case round =>
    obtain ⟨k, acc, hk, rfl, ho, Hal, Hsc, hb⟩ := hrel
    have hsz2 := hb.size
    have HL : Hid (acc.length < 1099511627776) := by
      show _ < _
      have := Hal.out; omega
    by_cases hlt : k < s.size
    · have Hat := Lib.hid (bs_at s k hlt)
      by_cases hc : s[k].toNat = 0
      · have d : ((s[k].toNat : Int) == 0) = true := by simp [hc]
        have Hc := Lib.hid (u8_zero hc)
        clear hc
        by_cases hlt2 : k + 1 < s.size
        · have Hat2 := Lib.hid (bs_at s (k + 1) hlt2)
          have e1 : ((k : Int) + 1 == (s.size : Int)) = false := by simp; omega
          by_cases hd0 : s[k + 1].toNat = 0
          · have d2 : ((s[k + 1].toNat : Int) == 0) = true := by simp [hd0]
            have Hv := Lib.hid (scan_ne Hsc.out Hat.out Hc.out Hat2.out (u8_zero hd0))
            rw [show ((k + 2 : Nat) : Int) = (k : Int) + 1 + 1 by omega] at Hv
            have hcv := run_string_own ho.out
            clear hd0
            go_wp2_with fail
            go_ret3
            exact ⟨by rw [Hv.out]; rfl, hb⟩
          · have d2 : ((s[k + 1].toNat : Int) == 0) = false := by simp; omega
            by_cases hd1 : s[k + 1].toNat = 255
            · have d3 : ((s[k + 1].toNat : Int) == 255) = true := by simp [hd1]
              have Hn := Lib.hid (scan_nm Hsc.out Hat.out Hc.out Hat2.out (show s[k + 1] = 255 from UInt8.toNat_inj.1 hd1))
              clear hd0 hd1
              go_wp2_with (at_builtin; refine wpList_append_byte rfl _ _ rfl w.heap.size _ acc 0 _ ho.out rfl rfl rfl HL.out (by omega) ?_; intro v1 w1 ho1 hb1)
              go_roundw
              case rel => exact ⟨k + 2, acc ++ [0], by omega, by go_num, ho1, by show _ ≤ _; rw [List.length_append, List.length_singleton]; have := Hal.out; omega, Hn.out, hb.trans hb1⟩
              case measure => simp [intOf]; omega
            · have d3 : ((s[k + 1].toNat : Int) == 255) = false := by simp; omega
              have Hv := Lib.hid (scan_nb Hsc.out Hat.out Hc.out Hat2.out (u8_nonzero hd0) (fun e => hd1 (by rw [e]; rfl)))
              clear hd0 hd1
              go_wp2_with fail
              go_ret3
              exact ⟨by rw [Hv.out]; rfl, hb⟩
        · have e1 : ((k : Int) + 1 == (s.size : Int)) = true := by simp; omega
          have Hv := Lib.hid (scan_nc Hsc.out Hat.out Hc.out (by rw [bs_length]; omega))
          go_wp2_with fail
          go_ret3
          exact ⟨by rw [Hv.out]; rfl, hb⟩
      · have d : ((s[k].toNat : Int) == 0) = false := by simp [hc]
        have Hn := Lib.hid (scan_nx Hsc.out Hat.out (u8_nonzero hc))
        clear hc
        go_wp2_with (at_builtin; refine wpList_append_byte rfl _ _ rfl w.heap.size _ acc s[k] _ ho.out rfl rfl rfl HL.out (by omega) ?_; intro v1 w1 ho1 hb1)
        go_roundw
        case rel => exact ⟨k + 1, acc ++ [s[k]], by omega, by go_num, ho1, by show _ ≤ _; rw [List.length_append, List.length_singleton]; have := Hal.out; omega, Hn.out, hb.trans hb1⟩
        case measure => simp [intOf]; omega
    · have Hv := Lib.hid (scan_nd Hsc.out (by rw [bs_length]; omega))
      go_wp2_with fail
      go_ret3
      exact ⟨by rw [Hv.out]; rfl, hb⟩

/-- why a string or bytes are none, or 0 -/
def chkE (c : Nat) (l : List UInt8) : Nat := if c = 3 ∧ (sg l).isSome = false then 5 else if 120 < l.length then 3 else 0
set_option maxRecDepth 100000 in
set_option maxHeartbeats 800000 in
theorem chk3_any (s : ByteArray) (w : World) (ht : UTab w) (hs : s.size ≤ 1000000) :
    Calls Tryd.prog 40 #[.int .i64 3, .string s] w fun e w' => e = .returned (.int .i64 (chkE 3 (bs s) : Nat)) ∧ Below w.heap.size w w' := by
  have HR := Lib.hid (right_any s w ht hs)
  have Hv : Hid (chkE 3 (bs s) = if (sg (bs s)).isSome = false then 5 else if 120 < s.size then 3 else 0) := by show _ = _; unfold chkE; rw [bs_length]; simp
  clear ht
  generalize (sg (bs s)).isSome = b at HR Hv
  cases b
  · replace Hv : Hid (chkE 3 (bs s) = 5) := Hv
    go_enter Tryd.func40, Tryd.ntmps40
    go_wp2_with fail
    refine HR.out.mono ?_
    rintro e w1 ⟨rfl, hb1⟩
    go_wp2_with fail
    go_ret
    exact ⟨by rw [Hv.out]; rfl, hb1⟩
  · rw [if_neg (by simp)] at Hv
    by_cases h : 120 < s.size
    · have d : decide (120 < (s.size : Int)) = true := by simp; omega
      rw [if_pos h] at Hv
      go_enter Tryd.func40, Tryd.ntmps40
      go_wp2_with fail
      refine HR.out.mono ?_
      rintro e w1 ⟨rfl, hb1⟩
      go_wp2_with fail
      go_ret
      exact ⟨by rw [Hv.out]; rfl, hb1⟩
    · have d : decide (120 < (s.size : Int)) = false := by simp; omega
      rw [if_neg h] at Hv
      go_enter Tryd.func40, Tryd.ntmps40
      go_wp2_with fail
      refine HR.out.mono ?_
      rintro e w1 ⟨rfl, hb1⟩
      go_wp2_with fail
      go_ret
      exact ⟨by rw [Hv.out]; rfl, hb1⟩
set_option maxRecDepth 100000 in
set_option maxHeartbeats 800000 in
theorem chk4_any (s : ByteArray) (w : World) :
    Calls Tryd.prog 40 #[.int .i64 4, .string s] w fun e w' => e = .returned (.int .i64 (chkE 4 (bs s) : Nat)) ∧ Below w.heap.size w w' := by
  have Hv : Hid (chkE 4 (bs s) = if 120 < s.size then 3 else 0) := by show _ = _; unfold chkE; rw [bs_length, if_neg (by simp)]
  by_cases h : 120 < s.size
  · have d : decide (120 < (s.size : Int)) = true := by simp; omega
    rw [if_pos h] at Hv
    go_enter Tryd.func40, Tryd.ntmps40
    go_wp2_with fail
    go_ret
    exact ⟨by rw [Hv.out]; rfl, Below.refl _ _⟩
  · have d : decide (120 < (s.size : Int)) = false := by simp; omega
    rw [if_neg h] at Hv
    go_enter Tryd.func40, Tryd.ntmps40
    go_wp2_with fail
    go_ret
    exact ⟨by rw [Hv.out]; rfl, Below.refl _ _⟩
end Go.Proofs.YtbbdmphclnnejaaDoor
