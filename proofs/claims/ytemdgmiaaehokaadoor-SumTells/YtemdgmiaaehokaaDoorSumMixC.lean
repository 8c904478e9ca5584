/-
  Contracts of the law's own helpers: three strings mixed; a string of which some of four bytes side by side are turned.
-/
import Derived.Test.YtemdgmiaaehokaaDoorSumRefC
namespace Go.Proofs.YtemdgmiaaehokaaDoor
open Go.RowKit

theorem mix_length : ∀ (l m n : List UInt8), l.length = m.length → m.length = n.length → (mix l m n).length = l.length
  | [], [], [], _, _ => rfl
  | _ :: l, _ :: m, _ :: n, h1, h2 => by simp [mix, mix_length l m n (by simpa using h1) (by simpa using h2)]
theorem mix_snoc : ∀ (l m n : List UInt8) (a b c : UInt8), l.length = m.length → m.length = n.length → mix (l ++ [a]) (m ++ [b]) (n ++ [c]) = mix l m n ++ [a ^^^ b ^^^ c]
  | [], [], [], _, _, _, _, _ => rfl
  | _ :: l, _ :: m, _ :: n, a, b, c, h1, h2 => by
    simp only [List.cons_append, mix]
    rw [mix_snoc l m n a b c (by simpa using h1) (by simpa using h2)]
theorem mix_take (a b c : ByteArray) (k : Nat) (h1 : k < a.size) (h2 : k < b.size) (h3 : k < c.size) :
    mix ((bs a).take (k + 1)) ((bs b).take (k + 1)) ((bs c).take (k + 1)) = mix ((bs a).take k) ((bs b).take k) ((bs c).take k) ++ [a[k] ^^^ b[k] ^^^ c[k]] := by
  rw [take_at (bs_at a k h1), take_at (bs_at b k h2), take_at (bs_at c k h3), mix_snoc _ _ _ _ _ _ (by simp [bs_length]; omega) (by simp [bs_length]; omega)]
theorem xor8 (a b : UInt8) : bits .xor .u8 (a.toNat : Int) (b.toNat : Int) = ((a ^^^ b).toNat : Int) := by
  rw [u8_xor_nat _ _ a.toNat_lt b.toNat_lt, UInt8.toNat_xor]

set_option maxRecDepth 100000 in
set_option maxHeartbeats 800000 in
theorem mixed_any (a b c : ByteArray) (w : World) (h1 : b.size = a.size) (h2 : c.size = a.size) (hl : a.size ≤ 1000000) :
    Calls Tryd.prog 16 #[.string a, .string b, .string c] w fun e w' => e = .returned (.string ⟨(mix (bs a) (bs b) (bs c)).toArray⟩) ∧ Below w.heap.size w w' := by
  go_enter Tryd.func16, Tryd.ntmps16
  go_wp2_with fail
  go_loopw [7, 8] (fun u i wr => ∃ k : Nat, k ≤ a.size ∧ i = .int .i64 k ∧ OwnB wr w.heap.size u (mix ((bs a).take k) ((bs b).take k) ((bs c).take k)) ∧ Below w.heap.size w wr) (fun _ i _ => a.size - (intOf i).toNat)
  case atStart => exact ⟨0, by omega, rfl, OwnB.nil _ _, Below.refl _ _⟩
  case round =>
    obtain ⟨k, hk, rfl, ho, hb⟩ := hrel
    by_cases hlt : k < a.size
    · have hkb : k < b.size := by omega
      have hkc : k < c.size := by omega
      have HL : Hid ((mix ((bs a).take k) ((bs b).take k) ((bs c).take k)).length < 1099511627776) := by
        show _ < _
        rw [mix_length _ _ _ (by simp [bs_length]; omega) (by simp [bs_length]; omega), List.length_take, bs_length]; omega
      have Hm := Lib.hid (mix_take a b c k hlt hkb hkc)
      have hx1 := u8_xor_nat a[k].toNat b[k].toNat a[k].toNat_lt b[k].toNat_lt
      have Hx : Hid (bits .xor .u8 ((a[k].toNat ^^^ b[k].toNat : Nat) : Int) (c[k].toNat : Int) = ((a[k] ^^^ b[k] ^^^ c[k]).toNat : Int)) := by
        show _ = _
        rw [← UInt8.toNat_xor, xor8]
      have hsz := hb.size
      have Ho := Lib.hid ho; clear ho
      go_wp2_with fail
      go_region_law (refine step_append_byte rfl (.tmp 27) (.tmp 39) rfl w.heap.size _ _ (a[k] ^^^ b[k] ^^^ c[k]) wr.heap.size _ (World.ownsRow.alloc Ho.out _) (by simp [Act.eval]) (by simp [Act.eval]) Hx.out (by simp) HL.out (by simp; omega) ?_; intro v1 w1 ho1 hb1)
      all_goals (
        have R1 : OwnB w1 w.heap.size v1 (mix ((bs a).take (k + 1)) ((bs b).take (k + 1)) ((bs c).take (k + 1))) := by rw [Hm.out]; exact ho1
        have R2 := ((hb.alloc hsz _).drew).trans hb1
        clear hb1 ho1
        go_wp2
        go_roundw
        case rel => exact ⟨k + 1, by omega, by go_num, R1, R2⟩
        case measure => simp [intOf]; omega)
    · have hcv := run_string_own ho
      go_wp2
      go_ret
      obtain rfl : k = a.size := by omega
      refine ⟨?_, hb⟩
      rw [List.take_of_length_le (by rw [bs_length]; omega), List.take_of_length_le (by rw [bs_length]; omega), List.take_of_length_le (by rw [bs_length]; omega)]
      rfl

theorem mixed_as (a b c m : ByteArray) (w : World) (h1 : b.size = a.size) (h2 : c.size = a.size) (hl : a.size ≤ 1000000) (hm : bs m = mix (bs a) (bs b) (bs c)) :
    Calls Tryd.prog 16 #[.string a, .string b, .string c] w fun e w' => e = .returned (.string m) ∧ Below w.heap.size w w' := by
  have := mixed_any a b c w h1 h2 hl
  rw [of_bs _ m hm] at this; exact this

end Go.Proofs.YtemdgmiaaehokaaDoor
