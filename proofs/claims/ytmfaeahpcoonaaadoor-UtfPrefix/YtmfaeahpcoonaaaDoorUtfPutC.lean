/-
  Contract of utf.Put.
-/
import Derived.Test.YtmfaeahpcoonaaaDoorUtfNumC
namespace Go.Proofs.YtmfaeahpcoonaaaDoor
open Go.RowKit

theorem enc_at (n j : Nat) (h1 : 1 ≤ j) (h2 : j < esz n) : (enc n)[j]? = some (by8 (128 + n / 64 ^ (esz n - 1 - j) % 64)) := by
  unfold esz at h2 ⊢
  unfold enc
  split
  · rename_i h; rw [if_pos h] at h2; omega
  rename_i h; rw [if_neg h] at h2
  split
  · rename_i h'; rw [if_pos h'] at h2
    obtain rfl : j = 1 := by omega
    simp
  rename_i h'; rw [if_neg h'] at h2
  split
  · rename_i h''; rw [if_pos h''] at h2
    rcases (show j = 1 ∨ j = 2 by omega) with rfl | rfl
    · simp
    · simp
  rename_i h''; rw [if_neg h''] at h2
  rcases (show j = 1 ∨ j = 2 ∨ j = 3 by omega) with rfl | rfl | rfl
  · simp
  · simp
  · simp
theorem enc_first (n : Nat) : (enc n)[0]? = some (by8 (mark (esz n) + n / 64 ^ (esz n - 1))) := by
  unfold enc esz
  split
  · simp [mark]
  split
  · simp [mark]
  split
  · simp [mark]
  · simp [mark]
theorem first_lt (n : Nat) (h : n ≤ 1114111) : mark (esz n) + n / 64 ^ (esz n - 1) < 256 := by
  unfold esz
  split
  · simp [mark]; omega
  split
  · simp [mark]; omega
  split
  · simp [mark]; omega
  · simp [mark]; omega
/-- the encoding from byte j on, noughts before -/
def part (n j : Nat) : List UInt8 := List.replicate (j + 1) 0 ++ (enc n).drop (j + 1)
theorem part_length (n j : Nat) (h : j < esz n) : (part n j).length = esz n := by
  rw [part, List.length_append, List.length_replicate, List.length_drop, enc_length]; omega
theorem part_start (n : Nat) : part n (esz n - 1) = List.replicate (esz n) 0 := by
  have := esz_pos n
  rw [part, show esz n - 1 + 1 = esz n by omega, List.drop_of_length_le (by rw [enc_length]; omega), List.append_nil]
theorem part_at (n j : Nat) : (part n j)[j]? = some 0 := by
  rw [part, List.getElem?_append_left (by rw [List.length_replicate]; omega), List.getElem?_replicate, if_pos (by omega)]
theorem part_set (n j : Nat) (c : UInt8) (hj : j < esz n) (h : (enc n)[j]? = some c) : (part n j).set j c = List.replicate j 0 ++ (enc n).drop j := by
  have hl : j < (enc n).length := by rw [enc_length]; exact hj
  have e : (enc n).drop j = c :: (enc n).drop (j + 1) := by
    rw [List.drop_eq_getElem_cons hl]
    congr 1
    rw [List.getElem?_eq_getElem hl] at h
    exact Option.some.inj h
  rw [part, e, List.replicate_succ', List.append_assoc, List.set_append_right _ _ (by simp)]
  simp
theorem part_next (n j : Nat) (h1 : 1 ≤ j) (h2 : j < esz n) : (part n j).set j (by8 (128 + n / 64 ^ (esz n - 1 - j) % 64)) = part n (j - 1) := by
  rw [part_set n j _ h2 (enc_at n j h1 h2), part, show j - 1 + 1 = j by omega]
theorem part_done (n : Nat) : (part n 0).set 0 (by8 (mark (esz n) + n / 64 ^ (esz n - 1))) = enc n := by
  rw [part_set n 0 _ (esz_pos n) (enc_first n)]; simp

set_option maxRecDepth 100000 in
set_option maxHeartbeats 800000 in
theorem put_yes (n : Nat) (w : World) (ht : UTab w) (hp : isP n = true) :
    Calls Tryd.prog 9 #[.int .i64 n] w fun e w' => e = .returned (.tuple #[.string ⟨(enc n).toArray⟩, .bool true]) ∧ Below w.heap.size w w' := by
  have hn := ((isP_iff n).1 hp).2.1
  have HT := Lib.hid ht; clear ht
  have h1 := esz_pos n
  have h4 := esz_le n
  have Hst := Lib.hid (part_start n)
  go_enter Tryd.func9, Tryd.ntmps9
  go_wp2_with fail
  refine (isCode_any n _).mono ?_
  rintro e w1 ⟨rfl, rfl⟩
  go_wp2_with fail
  refine (sizeOf_any n _ HT.out).mono ?_
  rintro e w1 ⟨rfl, rfl⟩
  go_wp2_with (at_make; refine wpList_make_bytes rfl _ _ rfl w.heap.size (esz n) _ _ _ _ rfl rfl rfl rfl (by omega) (Nat.le_refl _) ?_; intro w1 ho1 hb1)
  go_loopw [0, 6] (fun x i wr => ∃ j q : Nat, j < esz n ∧ i = .int .i64 j ∧ x = .int .i64 q ∧ q = n / 64 ^ (esz n - 1 - j) ∧ OwnB wr w.heap.size (.slice (some ⟨w.heap.size, 0, none⟩) (esz n) (esz n)) (part n j) ∧ Below w.heap.size w wr) (fun _ i _ => (intOf i).toNat)
  case atStart => exact ⟨esz n - 1, n, by omega, by go_num, rfl, by simp, by rw [Hst.out]; exact ho1, hb1⟩
  case round =>
    obtain ⟨j, q, hj, rfl, rfl, hq, ho, hb⟩ := hrel
    have hql : q ≤ n := by rw [hq]; exact Nat.div_le_self _ _
    have hlen := part_length n j hj
    have hcell := ho.at j 0 (part_at n j)
    have hfz := ho.thawed hlen j
    by_cases h0 : 0 < j
    · have R := ho.set hlen j (by8 (128 + q % 64))
      have hx : (part n j).set j (by8 (128 + q % 64)) = part n (j - 1) := by rw [hq]; exact part_next n j h0 hj
      have hq2 : q / 64 = n / 64 ^ (esz n - 1 - (j - 1)) := by
        rw [hq, Nat.div_div_eq_div_mul, show esz n - 1 - (j - 1) = (esz n - 1 - j) + 1 by omega, Nat.pow_succ]
      rw [hx, by8_toNat _ (by omega)] at R
      have hval : bits .or .i64 128 (bits .and .i64 (q : Int) 63) % 256 = ((128 + q % 64 : Nat) : Int) := by
        rw [i64_and63 q (by omega), i64_or128 (q % 64) (by omega)]; omega
      rw [← hval] at R
      clear hval
      have HR := Lib.hid R; clear R hx
      have Hq2 := Lib.hid hq2; clear hq2 hq
      have Hlen := Lib.hid hlen; clear hlen
      go_wp2
      go_roundw
      case rel => exact ⟨j - 1, q / 64, by omega, by go_num, by go_num, Hq2.out, HR.out, hb.setCell (by simp) _⟩
      case measure => simp [intOf]; omega
    · obtain rfl : j = 0 := by omega
      have R := ho.set hlen 0 (by8 (mark (esz n) + q))
      have hx : (part n 0).set 0 (by8 (mark (esz n) + q)) = enc n := by rw [hq]; exact part_done n
      have hlt : mark (esz n) + q < 256 := by rw [hq]; exact first_lt n (by omega)
      have hm := (HT.out.below hb (Nat.le_refl _)).1 (esz n - 1) (by omega)
      rw [show esz n - 1 + 1 = esz n by omega] at hm
      rw [hx, by8_toNat _ hlt, Int.natCast_add] at R
      have hcv := run_string_own R _ (fun _ => rfl)
      clear R hx hq
      have Hlen := Lib.hid hlen; clear hlen
      go_wp2
      go_ret2
      exact ⟨rfl, hb.setCell (by simp) _⟩

set_option maxRecDepth 100000 in
set_option maxHeartbeats 400000 in
theorem put_no (n : Int) (w : World) (hp : isP n = false) :
    Calls Tryd.prog 9 #[.int .i64 n] w fun e w' => e = .returned (.tuple #[.string ⟨#[]⟩, .bool false]) ∧ w = w' := by
  go_enter Tryd.func9, Tryd.ntmps9
  go_wp2_with fail
  refine (isCode_any n _).mono ?_
  rintro e w1 ⟨rfl, rfl⟩
  go_wp2
  go_ret2
  exact ⟨rfl, rfl⟩
end Go.Proofs.YtmfaeahpcoonaaaDoor
