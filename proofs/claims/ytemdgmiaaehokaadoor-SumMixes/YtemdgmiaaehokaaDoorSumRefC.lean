/-
  Contracts of the document's own checksum: Of, Seal, Open.
-/
import Derived.Test.YtemdgmiaaehokaaDoorSumC
namespace Go.Proofs.YtemdgmiaaehokaaDoor
open Go.RowKit

theorem poly_bits (q : Nat) (hq : q < 4294967296) : bits .xor .u32 ((q : Int) / 2) 2197175160 = ((q / 2 ^^^ 2197175160 : Nat) : Int) := by
  rw [show (q : Int) / 2 = ((q / 2 : Nat) : Int) by omega]
  exact u32_xor_nat (q / 2) 2197175160 (by omega) (by omega)
theorem sh_succ' (k c : Nat) : sh (k + 1) c = s1 (sh k c) := by rw [sh_add k 1]; rfl

set_option maxRecDepth 100000 in
set_option maxHeartbeats 400000 in
theorem rof_any (s : ByteArray) (w : World) (hs : s.size ≤ 9223372036854775807) :
    Calls Tryd.prog 10 #[.string s] w fun e w' => e = .returned (.int .u64 (crc (bs s) : Nat)) ∧ w = w' := by
  go_enter Tryd.func10, Tryd.ntmps10
  go_wp2
  go_loop [3, 4] (fun x i => ∃ k : Nat, k ≤ s.size ∧ i = .int .i64 k ∧ x = .int .u32 (run 4294967295 ((bs s).take k) : Nat)) (fun _ i => s.size - (intOf i).toNat)
  case atStart => exact ⟨0, by omega, rfl, congrArg (Value.int .u32) (by rw [List.take_zero]; rfl)⟩
  case round =>
    obtain ⟨k, hk, rfl, rfl⟩ := hrel
    have hr := run_lt ((bs s).take k) 4294967295 (by omega)
    by_cases hlt : k < s.size
    · have Hs := Lib.hid (run_at 4294967295 s k hlt)
      have hc256 := s[k].toNat_lt
      have hx := byte_bits (run 4294967295 ((bs s).take k)) s[k] hr
      have Hlt : Hid (run 4294967295 ((bs s).take k) ^^^ s[k].toNat < 4294967296) := xor_lt32 hr (by omega)
      have Hst : Hid (sh 8 (run 4294967295 ((bs s).take k) ^^^ s[k].toNat) = stp (run 4294967295 ((bs s).take k)) s[k]) := rfl
      generalize hq : run 4294967295 ((bs s).take k) = q at *
      have Hq := Lib.hid hq; clear hq
      generalize hz : q ^^^ s[k].toNat = z at *
      have Hz := Lib.hid hz; clear hz
      go_wp2
      go_loop [3, 5] (fun x i => ∃ j : Nat, j ≤ 8 ∧ i = .int .i64 j ∧ x = .int .u32 (sh j z : Nat)) (fun _ i => 8 - (intOf i).toNat)
      case atStart => exact ⟨0, by omega, rfl, rfl⟩
      case round =>
        obtain ⟨j, hj, rfl, rfl⟩ := hrel
        have Hl := sh_lt j z Hlt.out
        have Hj := Lib.hid (sh_succ' j z)
        by_cases hlt8 : j < 8
        · generalize hy : sh j z = y at *
          have Hy := Lib.hid hy; clear hy
          have hp := poly_bits y Hl
          by_cases hodd : y % 2 = 1
          · have e1 : Hid (s1 y = y / 2 ^^^ 2197175160) := by show _ = _; unfold s1; rw [if_pos hodd]
            have hb : ((y : Int) % 2 == 1) = true := by simp; omega
            clear hodd
            go_wp2
            go_round
            case rel => exact ⟨j + 1, by omega, by go_num, congrArg (Value.int .u32) (by rw [Hj.out, e1.out])⟩
            case measure => simp [intOf]; omega
          · have e1 : Hid (s1 y = y / 2) := by show _ = _; unfold s1; rw [if_neg hodd]
            have hb : ((y : Int) % 2 == 1) = false := by simp; omega
            clear hodd
            go_wp2
            go_round
            case rel => exact ⟨j + 1, by omega, by go_num, congrArg (Value.int .u32) (by rw [Hj.out, e1.out]; omega)⟩
            case measure => simp [intOf]; omega
        · obtain rfl : j = 8 := by omega
          clear hlt8
          go_wp2
          go_round
          case rel => exact ⟨k + 1, by omega, by go_num, congrArg (Value.int .u32) (by rw [Hs.out, Hst.out])⟩
          case measure => simp [intOf]; omega
    · go_wp2
      go_ret
      obtain rfl : k = s.size := by omega
      refine ⟨ret_int ?_, rfl⟩
      rw [List.take_of_length_le (by rw [bs_length]; omega)] at hr ⊢
      unfold crc
      omega

set_option maxRecDepth 100000 in
set_option maxHeartbeats 400000 in
theorem rseal_any (s : ByteArray) (w : World) (hs : s.size ≤ 4611686018427387904) :
    Calls Tryd.prog 15 #[.string s] w fun e w' => e = .returned (.string ⟨(sealed (bs s)).toArray⟩) ∧ Below w.heap.size w w' := by
  have Hc := Lib.hid (crc_lt (bs s))
  have Hlen := Lib.hid (le_length 4 (crc (bs s)))
  have hadd := fun w' => run_string_add_sum (P := Tryd.prog) (w := w') s ⟨(le 4 (crc (bs s))).toArray⟩ (by rw [ba_size (le 4 _), Hlen.out]; omega)
  go_enter Tryd.func15, Tryd.ntmps15
  go_wp2_with (first
    | (go_at_call 10; refine (rof_any _ _ (by omega)).mono ?_; rintro e w1 ⟨rfl, rfl⟩)
    | (go_at_call 20; refine (rput_any _ 4 _ (by have := Hc.out; omega) (by omega)).mono ?_; rintro e w1 ⟨rfl, hb1⟩))
  go_ret
  exact ⟨by rw [sealed, ← str_bs]; rfl, hb1⟩

theorem opn_alt (l : List UInt8) : (l.drop (l.length - 4) = le 4 (crc (l.take (l.length - 4)))) ↔ sealed (l.take (l.length - 4)) = l := by
  unfold sealed
  constructor
  · intro e; rw [← e, List.take_append_drop]
  · intro e
    have := List.take_append_drop (l.length - 4) l
    exact List.append_cancel_left (this.trans e.symm)

set_option maxRecDepth 100000 in
set_option maxHeartbeats 400000 in
theorem ropen_any (s : ByteArray) (w : World) (hs : s.size ≤ 4611686018427387904) :
    Calls Tryd.prog 13 #[.string s] w fun e w' => e = .returned (.tuple #[.string ⟨(opn (bs s)).1.toArray⟩, .int .i64 (opn (bs s)).2]) ∧ Below w.heap.size w w' := by
  have Ha := Lib.hid (opn_alt (bs s))
  unfold opn
  rw [bs_length]
  by_cases h4 : s.size < 4
  · rw [if_pos h4]
    go_enter Tryd.func13, Tryd.ntmps13
    go_wp2_with fail
    go_ret2
    exact ⟨rfl, Below.refl _ _⟩
  rw [if_neg h4]
  have ha := Ha.out
  rw [bs_length] at ha
  clear Ha
  have e1 : bs (s.extract 0 (s.size - 4)) = (bs s).take (s.size - 4) := by rw [bs_extract, List.drop_zero]
  by_cases hq : (bs s).drop (s.size - 4) = le 4 (crc ((bs s).take (s.size - 4)))
  · rw [if_pos hq]
    have hcmp : (sealed (bs (s.extract 0 (s.size - 4))) == s.toList) = true := by rw [e1, ByteArray.toList_eq, ha.1 hq]; simp [bs]
    have Hr : Hid (s.extract 0 (s.size - 4) = ⟨((bs s).take (s.size - 4)).toArray⟩) := bs_eq (by rw [e1]; rfl)
    clear e1 hq ha
    go_enter Tryd.func13, Tryd.ntmps13
    go_wp2_with (go_at_call 15; refine (rseal_any _ _ (by simp; omega)).mono ?_; rintro e w1 ⟨rfl, hb1⟩)
    go_ret2
    exact ⟨by rw [← Hr.out]; rfl, hb1⟩
  · rw [if_neg hq]
    have hcmp : (sealed (bs (s.extract 0 (s.size - 4))) == s.toList) = false := by
      rw [e1, ByteArray.toList_eq]; exact beq_eq_false_iff_ne.2 fun h => hq (ha.2 h)
    clear e1 hq ha
    go_enter Tryd.func13, Tryd.ntmps13
    go_wp2_with (go_at_call 15; refine (rseal_any _ _ (by simp; omega)).mono ?_; rintro e w1 ⟨rfl, hb1⟩)
    go_ret2
    exact ⟨rfl, hb1⟩

theorem of_bs (l : List UInt8) (t : ByteArray) (h : bs t = l) : (⟨l.toArray⟩ : ByteArray) = t := by subst h; rfl
theorem seal_as (s z : ByteArray) (w : World) (ht : Tab w) (hs : s.size ≤ 4611686018427387904) (hz : bs z = sealed (bs s)) :
    Calls Tryd.prog 14 #[.string s] w fun e w' => e = .returned (.string z) ∧ Below w.heap.size w w' := by
  have := seal_any s w ht hs
  rw [of_bs _ z hz] at this; exact this
theorem rseal_as (s z : ByteArray) (w : World) (hs : s.size ≤ 4611686018427387904) (hz : bs z = sealed (bs s)) :
    Calls Tryd.prog 15 #[.string s] w fun e w' => e = .returned (.string z) ∧ Below w.heap.size w w' := by
  have := rseal_any s w hs
  rw [of_bs _ z hz] at this; exact this
theorem open_as (s t : ByteArray) (n : Nat) (w : World) (ht : Tab w) (hs : s.size ≤ 4611686018427387904) (ho : opn (bs s) = (bs t, n)) :
    Calls Tryd.prog 12 #[.string s] w fun e w' => e = .returned (.tuple #[.string t, .int .i64 n]) ∧ Below w.heap.size w w' := by
  have := open_any s w ht hs
  rw [ho] at this; exact this
theorem ropen_as (s t : ByteArray) (n : Nat) (w : World) (hs : s.size ≤ 4611686018427387904) (ho : opn (bs s) = (bs t, n)) :
    Calls Tryd.prog 13 #[.string s] w fun e w' => e = .returned (.tuple #[.string t, .int .i64 n]) ∧ Below w.heap.size w w' := by
  have := ropen_any s w hs
  rw [ho] at this; exact this
theorem sealed_ex (s : ByteArray) : ∃ z : ByteArray, bs z = sealed (bs s) ∧ z.size = s.size + 4 := by
  refine ⟨⟨(sealed (bs s)).toArray⟩, rfl, ?_⟩
  rw [ba_size (sealed (bs s)), seal_length, bs_length]
theorem opn_ex (s : ByteArray) : ∃ (t : ByteArray) (n : Nat), opn (bs s) = (bs t, n) := ⟨⟨(opn (bs s)).1.toArray⟩, (opn (bs s)).2, rfl⟩
end Go.Proofs.YtemdgmiaaehokaaDoor
