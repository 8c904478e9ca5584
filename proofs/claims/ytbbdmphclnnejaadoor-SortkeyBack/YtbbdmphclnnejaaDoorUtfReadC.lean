/-
  Contract of utf.Read.
-/
import Derived.Test.YtbbdmphclnnejaaDoorUtfNumC
import Derived.Deep.RegionWith
namespace Go.Proofs.YtbbdmphclnnejaaDoor
open Go.RowKit

theorem rd_short {a : UInt8} {t : List UInt8} (h : sz a.toNat = 0 ∨ t.length + 1 < sz a.toNat) : rd (a :: t) = none := by
  unfold rd; simp only; rw [if_pos h]
theorem tl_at {t : List UInt8} {j i : Nat} {b : UInt8} (h : tl (t.take j) = true) (hb : t[i]? = some b) (hi : i < j) : isT b = true := by
  unfold tl at h
  rw [List.all_eq_true] at h
  refine h b ?_
  have : (t.take j)[i]? = some b := by rw [List.getElem?_take, if_pos hi]; exact hb
  exact List.mem_of_getElem? this
theorem rd_bad {a : UInt8} {t : List UInt8} {i : Nat} {b : UInt8} (hb : t[i]? = some b) (hi : i + 1 < sz a.toNat) (hT : isT b = false) : rd (a :: t) = none := by
  have : tl (t.take (sz a.toNat - 1)) = false := by
    cases h : tl (t.take (sz a.toNat - 1)) with
    | false => rfl
    | true => rw [tl_at h hb (by omega)] at hT; cases hT
  unfold rd; simp [this]
theorem rd_end {a : UInt8} {t : List UInt8} {q : Nat} (h : ¬ (sz a.toNat = 0 ∨ t.length + 1 < sz a.toNat)) (ht : tl (t.take (sz a.toNat - 1)) = true) (hq : q = fld (a.toNat - mark (sz a.toNat)) (t.take (sz a.toNat - 1))) :
    rd (a :: t) = if isP q = true ∧ lst (sz a.toNat) ≤ q then some (q, sz a.toNat) else none := by
  unfold rd; simp only
  rw [if_neg h, if_neg (by rw [ht]; simp), ← hq]
theorem fld_snoc (n : Nat) (l : List UInt8) (b : UInt8) : fld n (l ++ [b]) = fld n l * 64 + b.toNat % 64 := by simp [fld]
theorem tl_snoc (l : List UInt8) (b : UInt8) : tl (l ++ [b]) = (tl l && isT b) := by simp [tl]
theorem fld_lt (l : List UInt8) : ∀ n : Nat, fld n l < (n + 1) * 64 ^ l.length := by
  induction l with
  | nil => intro n; simp [fld]
  | cons b l ih =>
    intro n
    have h1 := ih (n * 64 + b.toNat % 64)
    have h2 : n * 64 + b.toNat % 64 + 1 ≤ (n + 1) * 64 := by omega
    have h3 := Nat.mul_le_mul_right (64 ^ l.length) h2
    show fld (n * 64 + b.toNat % 64) l < _
    rw [List.length_cons, Nat.pow_succ, Nat.mul_comm (64 ^ l.length) 64, ← Nat.mul_assoc]
    omega
theorem mark_sz (b : Nat) (h : sz b ≠ 0) : mark (sz b) ≤ b := by
  rcases sz_cases b with ⟨e, _⟩ | e | ⟨e, _, _⟩ | ⟨e, _, _⟩ | ⟨e, _, _⟩
  · rw [e]; simp [mark]
  · exact absurd e h
  · rw [e]; simp [mark]; omega
  · rw [e]; simp [mark]; omega
  · rw [e]; simp [mark]; omega
theorem sz_le (b : Nat) : sz b ≤ 4 := by
  rcases sz_cases b with ⟨e, _⟩ | e | ⟨e, _, _⟩ | ⟨e, _, _⟩ | ⟨e, _, _⟩ <;> omega
/-- what a reader hands back -/
def rdV (l : List UInt8) : Nat × Nat × Bool := match rd l with
  | some (n, k) => (n, k, true)
  | none => (0, 0, false)
theorem rdV_none {l : List UInt8} (h : rd l = none) : rdV l = (0, 0, false) := by unfold rdV; rw [h]
theorem rdV_some {l : List UInt8} {n k : Nat} (h : rd l = some (n, k)) : rdV l = (n, k, true) := by unfold rdV; rw [h]
theorem not_isT (b : Nat) (h : b < 256) : (128 ≤ b ∧ b < 192) ↔ b / 64 * 64 = 128 := by omega
theorem ret3b {a b a' b' : Int} {c c' : Bool} (h1 : a = a') (h2 : b = b') (h3 : c = c') :
    Ending.returned (.tuple #[.int .i64 a, .int .i64 b, .bool c]) = .returned (.tuple #[.int .i64 a', .int .i64 b', .bool c']) := by rw [h1, h2, h3]

set_option maxRecDepth 100000 in
set_option maxHeartbeats 800000 in
theorem read_any (s : ByteArray) (w : World) (ht : UTab w) (hs : s.size ≤ 9223372036854775807) :
    Calls Tryd.prog 55 #[.string s] w fun e w' => e = .returned (.tuple #[.int .i64 ((rdV (bs s)).1 : Nat), .int .i64 ((rdV (bs s)).2.1 : Nat), .bool (rdV (bs s)).2.2]) ∧ Below w.heap.size w w' := by
  have HT := Lib.hid ht; clear ht
  by_cases h0 : s.size = 0
  · have hnil : bs s = [] := List.eq_nil_of_length_eq_zero (by rw [bs_length]; exact h0)
    have hemp : s = ⟨#[]⟩ := bs_eq hnil
    subst hemp
    go_enter Tryd.func55, Tryd.ntmps55
    go_wp2
    go_ret3
    exact ⟨rfl, Below.refl _ _⟩
  obtain ⟨t, ht0, htl, hta⟩ := bs_cons s (by omega)
  have Hta := Lib.hid hta; clear hta
  have hb0 : s[0].toNat < 256 := s[0].toNat_lt
  have hk4 := sz_le s[0].toNat
  have hne : (s.toList == []) = false := by
    rw [ByteArray.toList_eq]; show (bs s == []) = false; rw [ht0]; rfl
  rw [ht0]
  by_cases hsh : sz s[0].toNat = 0 ∨ t.length + 1 < sz s[0].toNat
  · have HV := Lib.hid (rdV_none (rd_short hsh))
    have Ht0 := Lib.hid ht0; clear ht0
    by_cases hz : sz s[0].toNat = 0
    · have hd : (((sz s[0].toNat : Nat) : Int) == 0) = true := by simp; omega
      go_enter Tryd.func55, Tryd.ntmps55
      go_wp2_with fail
      refine (sizeAfter_any _ _ (by omega)).mono ?_
      rintro e w1 ⟨rfl, rfl⟩
      go_wp2
      go_ret3
      exact ⟨by rw [HV.out]; rfl, Below.refl _ _⟩
    · have hd : (((sz s[0].toNat : Nat) : Int) == 0) = false := by simp; omega
      have hd2 : decide ((s.size : Int) < ((sz s[0].toNat : Nat) : Int)) = true := by simp; omega
      go_enter Tryd.func55, Tryd.ntmps55
      go_wp2_with fail
      refine (sizeAfter_any _ _ (by omega)).mono ?_
      rintro e w1 ⟨rfl, rfl⟩
      go_wp2
      go_ret3
      exact ⟨by rw [HV.out]; rfl, Below.refl _ _⟩
  have hd : (((sz s[0].toNat : Nat) : Int) == 0) = false := by simp; omega
  have hd2 : decide ((s.size : Int) < ((sz s[0].toNat : Nat) : Int)) = false := by simp; omega
  have hd3 : decide (s.size < sz s[0].toNat) = false := by simp; omega
  have Ht0 := Lib.hid ht0; clear ht0
  have hms := mark_sz s[0].toNat (by omega)
  have hcell : w.cell? ⟨0, sz s[0].toNat - 1, none⟩ = some (.int .i64 ((mark (sz s[0].toNat) : Nat) : Int)) := by
    have := HT.out.1 (sz s[0].toNat - 1) (by omega)
    rw [show sz s[0].toNat - 1 + 1 = sz s[0].toNat by omega] at this
    exact this
  have hcell2 : w.drew.cell? ⟨1, sz s[0].toNat - 1, none⟩ = some (.int .i64 ((lst (sz s[0].toNat) : Nat) : Int)) := by
    have := HT.out.drew.2 (sz s[0].toNat - 1) (by omega)
    rw [show sz s[0].toNat - 1 + 1 = sz s[0].toNat by omega] at this
    exact this
  have Hbad : Hid (∀ i b, t[i]? = some b → i + 1 < sz s[0].toNat → isT b = false → rdV (s[0] :: t) = (0, 0, false)) := fun i b h1 h2 h3 => rdV_none (rd_bad h1 h2 h3)
  have Hend : Hid (∀ q, tl (t.take (sz s[0].toNat - 1)) = true → q = fld (s[0].toNat - mark (sz s[0].toNat)) (t.take (sz s[0].toNat - 1)) →
      rd (s[0] :: t) = if isP q = true ∧ lst (sz s[0].toNat) ≤ q then some (q, sz s[0].toNat) else none) := fun q h1 h2 => rd_end hsh h1 h2
  generalize hk : sz s[0].toNat = k at *
  have Hk := Lib.hid hk; clear hk
  generalize hm : mark k = m at *
  generalize hv : rdV (s[0] :: t) = v at *
  have Hv := Lib.hid hv; clear hv
  have Hm := Lib.hid hm; clear hm
  go_enter Tryd.func55, Tryd.ntmps55
  go_wp2_with fail
  refine (sizeAfter_any _ _ (by omega)).mono ?_
  rintro e w1 ⟨rfl, rfl⟩
  rw [Hk.out]
  go_wp2
  go_region
  go_wp2
  go_loop [2, 3, 5] (fun x y i => ∃ j q : Nat, j + 1 ≤ k ∧ y = .int .i64 k ∧ i = .int .i64 (j + 1 : Nat) ∧ x = .int .i64 q ∧ q < 256 * 64 ^ j ∧ Hid (tl (t.take j) = true) ∧ Hid (q = fld (s[0].toNat - m) (t.take j))) (fun _ _ i => k - (intOf i).toNat)
  case atStart => exact ⟨0, s[0].toNat - m, by omega, rfl, by go_num, by go_num, by omega, rfl, rfl⟩
  case round =>
    obtain ⟨j, q, hj, rfl, rfl, rfl, hq, hT, hF⟩ := hrel
    have hp : 64 ^ j ≤ 64 ^ 3 := Nat.pow_le_pow_right (by omega) (by omega)
    have hq2 : q < 67108864 := by omega
    have Hq : Hid (q * 64 + 64 ≤ 256 * 64 ^ (j + 1)) := by
      show _ ≤ _
      rw [Nat.pow_succ]; omega
    clear hq hp
    by_cases hlt : j + 1 < k
    · have hta : Hid (t[j]? = some s[j + 1]) := Hta.out j (by omega)
      have hb : s[j + 1].toNat < 256 := s[j + 1].toNat_lt
      have hjs : j + 1 < s.size := by omega
      have Hts : Hid (t.take (j + 1) = t.take j ++ [s[j + 1]]) := take_at hta
      have hnot := andNot63 s[j + 1].toNat hb
      by_cases hB : isT s[j + 1] = true
      · have hB' := (isT_iff _).1 hB
        rw [show s[j + 1].toNat / 64 * 64 = 128 by omega] at hnot
        have Hor : Hid (bits .or .i64 ((q : Int) * 64) (bits .and .i64 (s[j + 1].toNat : Int) 63) = ((q * 64 + s[j + 1].toNat % 64 : Nat) : Int)) := by
          show _ = _
          rw [i64_and63 s[j + 1].toNat (by omega)]
          exact i64_or6 q (s[j + 1].toNat % 64) (by omega) (by omega)
        have Hs : Hid (fld (s[0].toNat - m) (t.take (j + 1)) = q * 64 + s[j + 1].toNat % 64) := by
          show _ = _
          rw [Hts.out, fld_snoc, ← hF.out]
        have HtT : Hid (tl (t.take (j + 1)) = true) := by
          show _ = _
          rw [Hts.out, tl_snoc, hT.out, hB]; rfl
        have HB := Lib.hid hB; clear hB hB'
        go_wp2
        go_round
        case rel => exact ⟨j + 1, q * 64 + s[j + 1].toNat % 64, by omega, rfl, by go_num, congrArg (Value.int .i64) Hor.out, by have := Hq.out; omega, HtT, Hs.out.symm⟩
        case measure => simp [intOf]; omega
      · have hB1 : isT s[j + 1] = false := by simpa using hB
        have hB' : ¬ (128 ≤ s[j + 1].toNat ∧ s[j + 1].toNat < 192) := fun h => hB ((isT_iff _).2 h)
        have hne2 : ((((s[j + 1].toNat / 64 * 64 : Nat) : Int)) == 128) = false := by simp; omega
        have Hx := Lib.hid (Hbad.out j _ hta hlt hB1)
        clear hB hB1 hB'
        go_wp2
        go_ret3
        exact ⟨by rw [Hx.out]; rfl, (Below.refl _ _).drew⟩
    · obtain rfl : k = j + 1 := by omega
      have hend := Hend.out q hT.out hF.out
      rw [Nat.add_sub_cancel] at hcell2
      by_cases hP : isP q = true
      · by_cases hL : lst (j + 1) ≤ q
        · rw [if_pos ⟨hP, hL⟩] at hend
          have hv : v = (q, j + 1, true) := by rw [← Hv.out]; exact rdV_some hend
          have hd3 : decide ((q : Int) < ((lst (j + 1) : Nat) : Int)) = false := by simp; omega
          subst hv
          clear hend
          go_wp2_with fail
          refine (isCode_any q _).mono ?_
          rintro e w1 ⟨rfl, rfl⟩
          go_wp2
          go_ret3
          exact ⟨rfl, (Below.refl _ _).drew⟩
        · rw [if_neg (fun h => hL h.2)] at hend
          have hv : v = (0, 0, false) := by rw [← Hv.out]; exact rdV_none hend
          have hd3 : decide ((q : Int) < ((lst (j + 1) : Nat) : Int)) = true := by simp; omega
          subst hv
          clear hend
          go_wp2_with fail
          refine (isCode_any q _).mono ?_
          rintro e w1 ⟨rfl, rfl⟩
          go_wp2
          go_ret3
          exact ⟨rfl, (Below.refl _ _).drew⟩
      · rw [if_neg (fun h => hP h.1)] at hend
        have hv : v = (0, 0, false) := by rw [← Hv.out]; exact rdV_none hend
        have hP' : isP q = false := by simpa using hP
        subst hv
        clear hend hP
        go_wp2_with fail
        refine (isCode_any q _).mono ?_
        rintro e w1 ⟨rfl, rfl⟩
        go_wp2
        go_ret3
        exact ⟨rfl, (Below.refl _ _).drew⟩

theorem read_yes (s : ByteArray) (n k : Nat) (w : World) (ht : UTab w) (hs : s.size ≤ 9223372036854775807) (h : rd (bs s) = some (n, k)) :
    Calls Tryd.prog 55 #[.string s] w fun e w' => e = .returned (.tuple #[.int .i64 n, .int .i64 k, .bool true]) ∧ Below w.heap.size w w' := by
  have := read_any s w ht hs
  rw [rdV_some h] at this
  exact this
theorem read_no (s : ByteArray) (w : World) (ht : UTab w) (hs : s.size ≤ 9223372036854775807) (h : rd (bs s) = none) :
    Calls Tryd.prog 55 #[.string s] w fun e w' => e = .returned (.tuple #[.int .i64 0, .int .i64 0, .bool false]) ∧ Below w.heap.size w w' := by
  have := read_any s w ht hs
  rw [rdV_none h] at this
  exact this
end Go.Proofs.YtbbdmphclnnejaaDoor
