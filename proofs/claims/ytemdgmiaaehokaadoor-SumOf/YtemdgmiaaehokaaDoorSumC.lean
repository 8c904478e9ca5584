/-
  Contracts of package sum and of the document's own sum.
-/
import Derived.Test.YtemdgmiaaehokaaDoorRows
import Derived.Test.YtemdgmiaaehokaaDoorFixC
import Derived.Test.YtemdgmiaaehokaaDoorSumMath
namespace Go.Proofs.YtemdgmiaaehokaaDoor
open Go.RowKit

/-- the table lies in its variable -/
def Tab (w : World) : Prop := ∀ i : Nat, i < 16 → w.cell? ⟨0, i, none⟩ = some (.int .u32 ((sh 4 i : Nat) : Int))
theorem Tab.pos {w : World} (h : Tab w) : 0 < w.heap.size := World.block_lt_of_cell? w ⟨0, 0, none⟩ (h 0 (by omega))
theorem Tab.below {w w' : World} {B : Nat} (h : Tab w) (hb : Below B w w') (hB : 0 < B) : Tab w' := fun i hi => (hb.cell (p := ⟨0, i, none⟩) hB).trans (h i hi)

theorem four_bits (c : Nat) (hc : c < 4294967296) : bits .xor .u32 ((c : Int) / 16) ((sh 4 (c % 16) : Nat) : Int) = ((sh 4 c : Nat) : Int) := by
  rw [show (c : Int) / 16 = ((c / 16 : Nat) : Int) by omega, u32_xor_nat _ _ (by omega) (sh_lt 4 _ (by omega)), ← sh_four]

set_option maxRecDepth 100000 in
set_option maxHeartbeats 400000 in
theorem shiftFour_any (c : Nat) (w : World) (hc : c < 4294967296) (ht : Tab w) :
    Calls Tryd.prog 18 #[.int .u32 c] w fun e w' => e = .returned (.int .u32 (sh 4 c : Nat)) ∧ w = w' := by
  have hand : bits .and .u32 (c : Int) 15 = ((c % 16 : Nat) : Int) := by
    have := u32_and_nat c 15 hc (by omega)
    rw [nat_mask4] at this; exact this
  have hcell := ht (c % 16) (by omega)
  have Hx := Lib.hid (four_bits c hc)
  have HT := Lib.hid ht; clear ht
  go_enter Tryd.func18, Tryd.ntmps18
  go_wp2
  go_ret
  exact ⟨ret_int Hx.out, rfl⟩

theorem not_bits (c : Nat) (hc : c < 4294967296) : bits .xor .u32 IntKind.u32.max (c : Int) = ((4294967295 - c : Nat) : Int) := by
  rw [show IntKind.u32.max = ((4294967295 : Nat) : Int) from rfl, u32_xor_nat _ _ (by omega) hc, Nat.xor_comm, xor_ones32 c hc]
theorem byte_bits (c : Nat) (b : UInt8) (hc : c < 4294967296) : bits .xor .u32 (c : Int) (b.toNat : Int) = ((c ^^^ b.toNat : Nat) : Int) :=
  u32_xor_nat _ _ hc (by have := b.toNat_lt; omega)
theorem run_at (c : Nat) (s : ByteArray) (k : Nat) (hk : k < s.size) : run c ((bs s).take (k + 1)) = stp (run c ((bs s).take k)) s[k] := by
  rw [take_at (bs_at s k hk), run_snoc]

set_option maxRecDepth 100000 in
set_option maxHeartbeats 400000 in
theorem more_any (c : Nat) (s : ByteArray) (w : World) (hc : c < 4294967296) (hs : s.size ≤ 9223372036854775807) (ht : Tab w) :
    Calls Tryd.prog 11 #[.int .u32 c, .string s] w fun e w' => e = .returned (.int .u32 (mor c (bs s) : Nat)) ∧ w = w' := by
  have HT := Lib.hid ht; clear ht
  have hsg : IntKind.u32.signed = false := rfl
  have hn := not_bits c hc
  go_enter Tryd.func11, Tryd.ntmps11
  go_wp2
  go_loop [5, 11] (fun x i => ∃ k : Nat, k ≤ s.size ∧ i = .int .i64 k ∧ x = .int .u32 (run (4294967295 - c) ((bs s).take k) : Nat)) (fun _ i => s.size - (intOf i).toNat)
  case atStart => exact ⟨0, by omega, rfl, rfl⟩
  case round =>
    obtain ⟨k, hk, rfl, rfl⟩ := hrel
    have hr := run_lt ((bs s).take k) (4294967295 - c) (by omega)
    by_cases hlt : k < s.size
    · have Hs := Lib.hid (run_at (4294967295 - c) s k hlt)
      have hc256 := s[k].toNat_lt
      have hx := byte_bits (run (4294967295 - c) ((bs s).take k)) s[k] hr
      have Hlt : Hid (run (4294967295 - c) ((bs s).take k) ^^^ s[k].toNat < 4294967296) := xor_lt32 hr (by omega)
      generalize hq : run (4294967295 - c) ((bs s).take k) = q at *
      have Hq := Lib.hid hq; clear hq
      generalize hz : q ^^^ s[k].toNat = z at *
      have Hz := Lib.hid hz; clear hz
      go_wp2_with fail
      refine (shiftFour_any z _ Hlt.out HT.out).mono ?_
      rintro e w1 ⟨rfl, rfl⟩
      have Hlt2 := Lib.hid (sh_lt 4 z Hlt.out)
      have Hy : Hid (sh 4 (sh 4 z) = stp q s[k]) := by show _ = _; rw [stp, show 8 = 4 + 4 from rfl, sh_add, Hz.out]
      generalize sh 4 z = y at *
      go_wp2_with fail
      refine (shiftFour_any y _ Hlt2.out HT.out).mono ?_
      rintro e w1 ⟨rfl, rfl⟩
      generalize sh 4 y = x at *
      go_wp2
      go_round
      case rel => exact ⟨k + 1, by omega, by go_num, congrArg (Value.int .u32) (by rw [Hs.out, Hy.out])⟩
      case measure => simp [intOf]; omega
    · have hn2 := not_bits _ hr
      go_wp2
      go_ret
      obtain rfl : k = s.size := by omega
      exact ⟨ret_int (by rw [List.take_of_length_le (by rw [bs_length]; omega)]; rfl), rfl⟩

/-- a slice of strings that lies below block B -/
def StrsAt (w : World) (B : Nat) (A : Option Addr) (ss : List ByteArray) : Prop :=
  0 < ss.length → ∃ b off, A = some ⟨b, off, none⟩ ∧ b < B ∧ ∀ j (hj : j < ss.length), w.cell? ⟨b, off + j, none⟩ = some (.string ss[j])
/-- all bytes of strings, one behind the other -/
def flat (ss : List ByteArray) : List UInt8 := ss.flatMap bs
theorem flat_take (ss : List ByteArray) (k : Nat) (hk : k < ss.length) : flat (ss.take (k + 1)) = flat (ss.take k) ++ bs ss[k] := by
  rw [List.take_succ_eq_append_getElem hk, flat, flat, List.flatMap_append, List.flatMap_singleton]

set_option maxRecDepth 100000 in
set_option maxHeartbeats 400000 in
theorem of_any (A : Option Addr) (c : Nat) (ss : List ByteArray) (w : World) (ht : Tab w) (hA : StrsAt w w.heap.size A ss) (hl : ss.length ≤ 1000000) (hs : ∀ s ∈ ss, s.size ≤ 9223372036854775807) :
    Calls Tryd.prog 9 #[.slice A ss.length c] w fun e w' => e = .returned (.int .u32 (crc (flat ss) : Nat)) ∧ w = w' := by
  have HT := Lib.hid ht; clear ht
  have HA := Lib.hid hA; clear hA
  have HS := Lib.hid hs; clear hs
  go_enter Tryd.func9, Tryd.ntmps9
  go_wp2_with fail
  go_loop [3, 8] (fun x i => ∃ k : Nat, k ≤ ss.length ∧ i = .int .i64 k ∧ x = .int .u32 (crc (flat (ss.take k)) : Nat)) (fun _ i => ss.length - (intOf i).toNat)
  case atStart => exact ⟨0, by omega, rfl, congrArg (Value.int .u32) (by rw [List.take_zero, show flat [] = [] from rfl, crc_nil]; rfl)⟩
  case round =>
    obtain ⟨k, hk, rfl, rfl⟩ := hrel
    by_cases hlt : k < ss.length
    · obtain ⟨b, off, rfl, hbB, hc⟩ := HA.out (by omega)
      have hcell := hc k hlt
      have Hc := Lib.hid hc; clear hc
      have Hz := HS.out _ (List.getElem_mem hlt)
      have Hm := Lib.hid (crc_more (flat (ss.take k)) (bs ss[k]))
      have Hf := Lib.hid (flat_take ss k hlt)
      have Hlt := Lib.hid (crc_lt (flat (ss.take k)))
      go_wp2_with (go_at_call 11; refine (more_any _ _ _ Hlt.out Hz HT.out).mono ?_; rintro e w1 ⟨rfl, rfl⟩)
      go_round
      case rel => exact ⟨k + 1, by omega, by go_num, congrArg (Value.int .u32) (by rw [Hf.out, Hm.out])⟩
      case measure => simp [intOf]; omega
    · go_wp2
      go_ret
      obtain rfl : k = ss.length := by omega
      exact ⟨by rw [List.take_length]; rfl, rfl⟩

theorem of_nil (w : World) (ht : Tab w) : Calls Tryd.prog 9 #[.slice none 0 0] w fun e w' => e = .returned (.int .u32 0) ∧ w = w' :=
  of_any none 0 [] w ht (fun h => absurd h (by simp)) (by simp) (by simp)
theorem Tab.alloc {w : World} (h : Tab w) (o : Obj) : Tab (w.alloc o) := h.below ((Below.refl _ _).alloc (Nat.le_refl _) o) h.pos
theorem Tab.drew {w : World} (h : Tab w) : Tab w.drew := h.below (Below.refl w.heap.size _).drew h.pos
/-- the checksum of one string, as a call lays it -/
theorem of_one (w : World) (b c : Nat) (s : ByteArray) (ht : Tab w) (hc : w.cell? ⟨b, 0, none⟩ = some (.string s)) (hs : s.size ≤ 9223372036854775807) :
    Calls Tryd.prog 9 #[.slice (some ⟨b, 0, none⟩) 1 c] w fun e w' => e = .returned (.int .u32 (crc (bs s) : Nat)) ∧ w = w' := by
  have := of_any (some ⟨b, 0, none⟩) c [s] w ht (fun _ => ⟨b, 0, rfl, World.block_lt_of_cell? w _ hc, fun j hj => by
    match j, hj with
    | 0, hj => simpa using hc⟩) (by simp) (by simpa using hs)
  simpa [flat] using this
theorem of_new (w : World) (b c : Nat) (s : ByteArray) (ht : Tab w) (hb : b = w.heap.size) (hs : s.size ≤ 9223372036854775807) :
    Calls Tryd.prog 9 #[.slice (some ⟨b, 0, none⟩) 1 c] (w.alloc (.cells #[.string s] 9)) fun e w' => e = .returned (.int .u32 (crc (bs s) : Nat)) ∧ w.alloc (.cells #[.string s] 9) = w' := by
  subst hb
  exact of_one _ _ _ s (ht.alloc _) (by simp) hs
theorem of_two (w : World) (b c : Nat) (s t : ByteArray) (ht : Tab w) (hc : w.cell? ⟨b, 0, none⟩ = some (.string s)) (hd : w.cell? ⟨b, 1, none⟩ = some (.string t)) (hs : s.size ≤ 9223372036854775807) (h2 : t.size ≤ 9223372036854775807) :
    Calls Tryd.prog 9 #[.slice (some ⟨b, 0, none⟩) 2 c] w fun e w' => e = .returned (.int .u32 (crc (bs s ++ bs t) : Nat)) ∧ w = w' := by
  have := of_any (some ⟨b, 0, none⟩) c [s, t] w ht (fun _ => ⟨b, 0, rfl, World.block_lt_of_cell? w _ hc, fun j hj => by
    match j, hj with
    | 0, hj => simpa using hc
    | 1, hj => simpa using hd⟩) (by simp) (by simpa using ⟨hs, h2⟩)
  simpa [flat] using this

theorem ba_size (l : List UInt8) : (⟨l.toArray⟩ : ByteArray).size = l.length := by show l.toArray.size = _; rw [List.size_toArray]
theorem str_bs (s : ByteArray) (l : List UInt8) : s ++ ⟨l.toArray⟩ = ⟨(bs s ++ l).toArray⟩ := by
  apply ByteArray.ext; simp [ByteArray.data_append, bs]
theorem of_new2 (w : World) (b c : Nat) (s t : ByteArray) (ht : Tab w) (hb : b = w.heap.size) (hs : s.size ≤ 9223372036854775807) (h2 : t.size ≤ 9223372036854775807) :
    Calls Tryd.prog 9 #[.slice (some ⟨b, 0, none⟩) 2 c] (w.alloc (.cells #[.string s, .string t] 9)) fun e w' => e = .returned (.int .u32 (crc (bs s ++ bs t) : Nat)) ∧ w.alloc (.cells #[.string s, .string t] 9) = w' := by
  subst hb
  exact of_two _ _ _ s t (ht.alloc _) (by simp) (by simp) hs h2

set_option maxRecDepth 100000 in
set_option maxHeartbeats 400000 in
theorem seal_any (s : ByteArray) (w : World) (ht : Tab w) (hs : s.size ≤ 4611686018427387904) :
    Calls Tryd.prog 14 #[.string s] w fun e w' => e = .returned (.string ⟨(sealed (bs s)).toArray⟩) ∧ Below w.heap.size w w' := by
  have HT := Lib.hid ht; clear ht
  have Hc := Lib.hid (crc_lt (bs s))
  have Hlen := Lib.hid (le_length 4 (crc (bs s)))
  have hadd := fun w' => run_string_add_sum (P := Tryd.prog) (w := w') s ⟨(le 4 (crc (bs s))).toArray⟩ (by rw [ba_size (le 4 _), Hlen.out]; omega)
  go_enter Tryd.func14, Tryd.ntmps14
  go_wp2_with (first
    | (go_at_call 9; refine (of_one _ _ _ s (HT.out.alloc _) (by simp) (by omega)).mono ?_; rintro e w1 ⟨rfl, rfl⟩)
    | (go_at_call 19; refine (put32_any _ _ Hc.out).mono ?_; rintro e w1 ⟨rfl, hb1⟩))
  go_ret
  exact ⟨by rw [sealed, ← str_bs]; rfl, ((Below.refl _ _).alloc (Nat.le_refl _) _).trans (hb1.mono (by simp))⟩

theorem bs_append (a b : ByteArray) : bs (a ++ b) = bs a ++ bs b := by simp [bs, ByteArray.data_append]
theorem bs_eq {a b : ByteArray} (h : bs a = bs b) : a = b := by
  cases a; cases b
  simp [bs] at h
  exact congrArg ByteArray.mk h
theorem bs_extract (s : ByteArray) (i j : Nat) : bs (s.extract i j) = ((bs s).take j).drop i := by
  simp [bs, List.extract_eq_take_drop, List.drop_take]

set_option maxRecDepth 100000 in
set_option maxHeartbeats 400000 in
theorem open_any (s : ByteArray) (w : World) (ht : Tab w) (hs : s.size ≤ 4611686018427387904) :
    Calls Tryd.prog 12 #[.string s] w fun e w' => e = .returned (.tuple #[.string ⟨(opn (bs s)).1.toArray⟩, .int .i64 (opn (bs s)).2]) ∧ Below w.heap.size w w' := by
  have HT := Lib.hid ht; clear ht
  unfold opn
  rw [bs_length]
  by_cases h4 : s.size < 4
  · rw [if_pos h4]
    go_enter Tryd.func12, Tryd.ntmps12
    go_wp2_with fail
    go_ret2
    exact ⟨rfl, Below.refl _ _⟩
  rw [if_neg h4]
  have e1 : bs (s.extract 0 (s.size - 4)) = (bs s).take (s.size - 4) := by rw [bs_extract, List.drop_zero]
  have e2 : (s.extract (s.size - 4) s.size).toList = (bs s).drop (s.size - 4) := by
    rw [ByteArray.toList_eq]
    exact (bs_extract _ _ _).trans (by rw [List.take_of_length_le (by rw [bs_length]; omega)])
  by_cases hq : (bs s).drop (s.size - 4) = le 4 (crc ((bs s).take (s.size - 4)))
  · rw [if_pos hq]
    have hcmp : (le 4 (crc (bs (s.extract 0 (s.size - 4)))) == (s.extract (s.size - 4) s.size).toList) = true := by rw [e1, e2, hq]; simp
    have Hr : Hid (s.extract 0 (s.size - 4) = ⟨((bs s).take (s.size - 4)).toArray⟩) := bs_eq (by rw [e1]; rfl)
    clear e1 e2 hq
    go_enter Tryd.func12, Tryd.ntmps12
    go_wp2_with fail
    go_region_with (first
      | (go_at_call 9; refine (of_one _ _ _ (s.extract 0 (s.size - 4)) (HT.out.alloc _).drew (by simp) (by simp; omega)).mono ?_; rintro e w1 ⟨rfl, rfl⟩)
      | (go_at_call 19; refine (put32_any _ _ (crc_lt _)).mono ?_; rintro e w1 ⟨rfl, hb1⟩))
    go_wp2
    go_ret2
    exact ⟨by rw [← Hr.out]; rfl, (((Below.refl _ _).alloc (Nat.le_refl _) _).drew).trans (hb1.mono (by simp))⟩
  · rw [if_neg hq]
    have hcmp : (le 4 (crc (bs (s.extract 0 (s.size - 4)))) == (s.extract (s.size - 4) s.size).toList) = false := by rw [e1, e2]; simpa using Ne.symm hq
    clear e1 e2 hq
    go_enter Tryd.func12, Tryd.ntmps12
    go_wp2_with fail
    go_region_with (first
      | (go_at_call 9; refine (of_one _ _ _ (s.extract 0 (s.size - 4)) (HT.out.alloc _).drew (by simp) (by simp; omega)).mono ?_; rintro e w1 ⟨rfl, rfl⟩)
      | (go_at_call 19; refine (put32_any _ _ (crc_lt _)).mono ?_; rintro e w1 ⟨rfl, hb1⟩))
    go_wp2
    go_ret2
    exact ⟨rfl, (((Below.refl _ _).alloc (Nat.le_refl _) _).drew).trans (hb1.mono (by simp))⟩
end Go.Proofs.YtemdgmiaaehokaaDoor
