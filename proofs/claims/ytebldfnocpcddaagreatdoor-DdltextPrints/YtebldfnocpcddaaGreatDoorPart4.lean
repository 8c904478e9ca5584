/-
  Texts that the proof needs, one behind the other: NameMath, NameC, NameOrdC, NameQuoMath, NameUnqMath, NamePathMath, NameQuoC.
-/
import Derived.WalkKit
import Derived.Deep.RegionWith
import Derived.BigQuiet
import Derived.Deep.QuietTactic
import Derived.Lib.Bytealg
import Derived.Test.YtebldfnocpcddaaGreatDoorPart1

/-
  Names, the order of strings, quoted strings and paths, plainly. It speaks of no program.
-/
namespace Go.Proofs.YtebldfnocpcddaaGreatDoor

/-- is the byte a letter? -/
def isL (c : UInt8) : Bool := decide (97 ≤ c.toNat) && decide (c.toNat ≤ 122)
/-- may the byte stand in a name? -/
def isN (c : UInt8) : Bool := isL c || (decide (48 ≤ c.toNat) && decide (c.toNat ≤ 57)) || decide (c.toNat = 95)
theorem isN_of_isL {c : UInt8} (h : isL c = true) : isN c = true := by simp [isN, h]
/-- how many bytes of names stand at the beginning -/
def runN : List UInt8 → Nat
  | [] => 0
  | c :: r => if isN c then runN r + 1 else 0
/-- how far a name goes -/
def rdN : List UInt8 → Nat
  | [] => 0
  | c :: r => if isL c then runN (c :: r) else 0
/-- is it a name? -/
def rightN (l : List UInt8) : Bool := decide (0 < l.length) && decide (l.length ≤ 16) && decide (rdN l = l.length)

theorem runN_eq : ∀ {l : List UInt8} {k : Nat} {c : UInt8}, (∀ x ∈ l.take k, isN x = true) → l[k]? = some c → isN c = false → runN l = k
  | [], _, _, _, h, _ => by simp at h
  | a :: r, 0, c, _, h, hc => by
    simp at h; subst h
    simp [runN, hc]
  | a :: r, k + 1, c, hall, h, hc => by
    have ha : isN a = true := hall a (by simp)
    simp only [runN, ha, if_true]
    rw [runN_eq (l := r) (k := k) (c := c) (fun x hx => hall x (by simp [hx])) (by simpa using h) hc]
theorem runN_all : ∀ {l : List UInt8}, (∀ x ∈ l, isN x = true) → runN l = l.length
  | [], _ => rfl
  | a :: r, h => by
    have ha : isN a = true := h a (by simp)
    simp only [runN, ha, if_true]
    rw [runN_all (l := r) (fun x hx => h x (by simp [hx]))]; rfl
theorem rdN_cons {l : List UInt8} {c : UInt8} (h : l[0]? = some c) : rdN l = if isL c then runN l else 0 := by
  cases l with
  | nil => simp at h
  | cons a r => simp at h; subst h; rfl
theorem runN_le : ∀ l : List UInt8, runN l ≤ l.length
  | [] => by simp [runN]
  | c :: r => by
    have := runN_le r
    unfold runN; split <;> simp <;> omega
theorem rdN_le (l : List UInt8) : rdN l ≤ l.length := by
  cases l with
  | nil => simp [rdN]
  | cons c r => simp only [rdN]; split <;> first | exact runN_le _ | simp
theorem runN_full : ∀ {l : List UInt8}, runN l = l.length → ∀ x ∈ l, isN x = true
  | [], _, _, hx => by cases hx
  | a :: r, h, x, hx => by
    unfold runN at h
    split at h
    · rename_i ha
      simp at h
      rcases List.mem_cons.1 hx with rfl | hx
      · exact ha
      · exact runN_full h x hx
    · simp at h
theorem right_all {l : List UInt8} (h : rightN l = true) : ∀ x ∈ l, isN x = true := by
  simp only [rightN, Bool.and_eq_true, decide_eq_true_eq] at h
  obtain ⟨⟨h0, _⟩, h1⟩ := h
  cases l with
  | nil => intro x hx; cases hx
  | cons c r =>
    simp only [rdN] at h1
    split at h1
    · exact runN_full h1
    · simp at h1
theorem right_nodot {l : List UInt8} (h : rightN l = true) : (46 : UInt8) ∉ l := fun hm => by
  have := right_all h 46 hm
  revert this; decide
theorem right_len {l : List UInt8} (h : rightN l = true) : 0 < l.length ∧ l.length ≤ 16 := by
  simp only [rightN, Bool.and_eq_true, decide_eq_true_eq] at h
  exact h.1

/-- which of two strings stands first -/
def ordN : List UInt8 → List UInt8 → Int
  | [], [] => 0
  | [], _ :: _ => -1
  | _ :: _, [] => 1
  | a :: r, b :: s => if a.toNat < b.toNat then -1 else if b.toNat < a.toNat then 1 else ordN r s
/-- the sign of a number -/
def sgn (z : Int) : Int := if z < 0 then -1 else if 0 < z then 1 else 0
theorem drop_at {l : List UInt8} {k : Nat} {c : UInt8} (h : l[k]? = some c) : l.drop k = c :: l.drop (k + 1) := by
  obtain ⟨hk, h⟩ := List.getElem?_eq_some_iff.1 h
  rw [List.drop_eq_getElem_cons hk, h]
theorem ordN_ne {l m : List UInt8} {k : Nat} {a b : UInt8} (h : l[k]? = some a) (h2 : m[k]? = some b) (hne : a.toNat ≠ b.toNat) : ordN (l.drop k) (m.drop k) = sgn ((a.toNat : Int) - (b.toNat : Int)) := by
  rw [drop_at h, drop_at h2, ordN, sgn]
  by_cases hlt : a.toNat < b.toNat
  · rw [if_pos hlt, if_pos (by omega)]
  · rw [if_neg hlt, if_pos (by omega), if_neg (by omega), if_pos (by omega)]
theorem ordN_lt {l m : List UInt8} {k : Nat} {a b : UInt8} (h : l[k]? = some a) (h2 : m[k]? = some b) (hlt : a.toNat < b.toNat) : ordN (l.drop k) (m.drop k) = -1 := by
  rw [drop_at h, drop_at h2, ordN, if_pos hlt]
theorem ordN_gt {l m : List UInt8} {k : Nat} {a b : UInt8} (h : l[k]? = some a) (h2 : m[k]? = some b) (hlt : b.toNat < a.toNat) : ordN (l.drop k) (m.drop k) = 1 := by
  rw [drop_at h, drop_at h2, ordN, if_neg (by omega), if_pos hlt]
theorem ordN_eq {l m : List UInt8} {k : Nat} {a b : UInt8} (h : l[k]? = some a) (h2 : m[k]? = some b) (he : a.toNat = b.toNat) : ordN (l.drop k) (m.drop k) = ordN (l.drop (k + 1)) (m.drop (k + 1)) := by
  rw [drop_at h, drop_at h2, ordN, if_neg (by omega), if_neg (by omega)]
theorem ordN_end {l m : List UInt8} {k : Nat} (h1 : k ≤ l.length) (h2 : k ≤ m.length) (h : k = l.length ∨ k = m.length) : ordN (l.drop k) (m.drop k) = sgn ((l.length : Int) - (m.length : Int)) := by
  have e1 := @List.length_drop _ k l
  have e2 := @List.length_drop _ k m
  cases hl : l.drop k with
  | nil =>
    rw [hl] at e1; simp at e1
    cases hm : m.drop k with
    | nil => rw [hm] at e2; simp at e2; rw [ordN, sgn, if_neg (by omega), if_neg (by omega)]
    | cons b s => rw [hm] at e2; simp at e2; rw [ordN, sgn, if_pos (by omega)]
  | cons a r =>
    rw [hl] at e1; simp at e1
    cases hm : m.drop k with
    | nil => rw [hm] at e2; simp at e2; rw [ordN, sgn, if_neg (by omega), if_pos (by omega)]
    | cons b s => rw [hm] at e2; simp at e2; omega
theorem ordN_turn : ∀ l m : List UInt8, ordN m l = - ordN l m
  | [], [] => rfl
  | [], _ :: _ => rfl
  | _ :: _, [] => rfl
  | a :: r, b :: s => by
    simp only [ordN]
    rw [ordN_turn r s]
    by_cases h1 : a.toNat < b.toNat
    · rw [if_pos h1, if_neg (by omega), if_pos h1]; rfl
    · by_cases h2 : b.toNat < a.toNat
      · rw [if_pos h2, if_neg h1, if_pos h2]
      · rw [if_neg h2, if_neg h1, if_neg h1, if_neg h2]
theorem ordN_zero : ∀ {l m : List UInt8}, ordN l m = 0 → l = m
  | [], [], _ => rfl
  | [], _ :: _, h => by simp [ordN] at h
  | _ :: _, [], h => by simp [ordN] at h
  | a :: r, b :: s, h => by
    simp only [ordN] at h
    split at h
    · simp at h
    · split at h
      · simp at h
      · rw [ordN_zero h, show a = b from UInt8.toNat_inj.1 (by omega)]
theorem ordN_self : ∀ l : List UInt8, ordN l l = 0
  | [] => rfl
  | a :: r => by simp [ordN, ordN_self r]
theorem ordN_cases (l m : List UInt8) : ordN l m = -1 ∨ ordN l m = 0 ∨ ordN l m = 1 := by
  induction l generalizing m with
  | nil => cases m <;> simp [ordN]
  | cons a r ih =>
    cases m with
    | nil => simp [ordN]
    | cons b s =>
      simp only [ordN]
      split
      · simp
      · split
        · simp
        · exact ih s
theorem ordN_trans : ∀ {l m n : List UInt8}, ordN l m < 0 → ordN m n < 0 → ordN l n < 0
  | [], [], _, h, _ => by simp [ordN] at h
  | [], _ :: _, [], _, h => by simp [ordN] at h
  | [], _ :: _, _ :: _, _, _ => by simp [ordN]
  | _ :: _, [], _, h, _ => by simp [ordN] at h
  | _ :: _, _ :: _, [], _, h => by simp [ordN] at h
  | a :: r, b :: s, c :: t, h, h2 => by
    simp only [ordN] at h h2 ⊢
    by_cases h1 : a.toNat < b.toNat
    · by_cases h3 : b.toNat < c.toNat
      · rw [if_pos (by omega)]; decide
      · by_cases h4 : c.toNat < b.toNat
        · rw [if_neg h3, if_pos h4] at h2; simp at h2
        · rw [if_pos (by omega)]; decide
    · by_cases h5 : b.toNat < a.toNat
      · rw [if_neg h1, if_pos h5] at h; simp at h
      · rw [if_neg h1, if_neg h5] at h
        by_cases h3 : b.toNat < c.toNat
        · rw [if_pos (by omega)]; decide
        · by_cases h4 : c.toNat < b.toNat
          · rw [if_neg h3, if_pos h4] at h2; simp at h2
          · rw [if_neg h3, if_neg h4] at h2
            rw [if_neg (by omega), if_neg (by omega)]
            exact ordN_trans h h2
end Go.Proofs.YtebldfnocpcddaaGreatDoor

/-
  Contracts of package name on names and their order: isLetter, isNameByte, Read, Right, sign, Order; and of the document's own letter, Part, Read, Right, Order.
-/
namespace Go.Proofs.YtebldfnocpcddaaGreatDoor
open Go.RowKit

theorem retB {a b : Bool} (h : a = true ↔ b = true) : Ending.returned (Value.bool a) = .returned (.bool b) := by rw [Bool.eq_iff_iff.2 h]

set_option maxHeartbeats 400000 in
theorem isLetter_any (c : UInt8) (w : World) : Calls Tryz.prog 111 #[.int .u8 (c.toNat : Int)] w fun e w' => e = .returned (.bool (isL c)) ∧ w = w' := by
  obtain ⟨n, hn⟩ : ∃ n, n = c.toNat := ⟨_, rfl⟩
  have Hc : Hid (isL c = (decide (97 ≤ n) && decide (n ≤ 122))) := by show _ = _; rw [hn]; rfl
  rw [← hn]; clear hn
  go_enter Tryz.func111, Tryz.ntmps111
  go_wp2
  all_goals
    go_ret
    exact ⟨retB (by rw [Hc.out]; simp; omega), rfl⟩
set_option maxHeartbeats 400000 in
theorem letter_any (c : UInt8) (w : World) : Calls Tryz.prog 74 #[.int .u8 (c.toNat : Int)] w fun e w' => e = .returned (.bool (isL c)) ∧ w = w' := by
  obtain ⟨n, hn⟩ : ∃ n, n = c.toNat := ⟨_, rfl⟩
  have Hc : Hid (isL c = (decide (97 ≤ n) && decide (n ≤ 122))) := by show _ = _; rw [hn]; rfl
  rw [← hn]; clear hn
  go_enter Tryz.func74, Tryz.ntmps74
  go_wp2
  all_goals
    go_ret
    exact ⟨retB (by rw [Hc.out]; simp; omega), rfl⟩

set_option maxHeartbeats 800000 in
theorem isNameByte_any (c : UInt8) (w : World) : Calls Tryz.prog 112 #[.int .u8 (c.toNat : Int)] w fun e w' => e = .returned (.bool (isN c)) ∧ w = w' := by
  have hl := isLetter_any c w
  obtain ⟨n, hn⟩ : ∃ n, n = c.toNat := ⟨_, rfl⟩
  have Hc : Hid (isN c = (isL c || (decide (48 ≤ n) && decide (n ≤ 57)) || decide (n = 95))) := by show _ = _; rw [hn]; rfl
  rw [← hn] at hl ⊢; clear hn
  cases hL : isL c
  all_goals
    rw [hL] at hl
    rw [hL] at Hc
    have Hl := Lib.hid hl; clear hl
    go_enter Tryz.func112, Tryz.ntmps112
    go_wp2_with (go_at_call 111; refine Hl.out.mono ?_; rintro e w1 ⟨rfl, rfl⟩)
    all_goals
      go_ret
      exact ⟨retB (by rw [Hc.out]; simp; try omega), rfl⟩
set_option maxHeartbeats 800000 in
theorem Part_any (c : UInt8) (w : World) : Calls Tryz.prog 73 #[.int .u8 (c.toNat : Int)] w fun e w' => e = .returned (.bool (isN c)) ∧ w = w' := by
  have hl := letter_any c w
  obtain ⟨n, hn⟩ : ∃ n, n = c.toNat := ⟨_, rfl⟩
  have Hc : Hid (isN c = (isL c || (decide (48 ≤ n) && decide (n ≤ 57)) || decide (n = 95))) := by show _ = _; rw [hn]; rfl
  rw [← hn] at hl ⊢; clear hn
  cases hL : isL c
  all_goals
    rw [hL] at hl
    rw [hL] at Hc
    have Hl := Lib.hid hl; clear hl
    go_enter Tryz.func73, Tryz.ntmps73
    go_wp2_with (go_at_call 74; refine Hl.out.mono ?_; rintro e w1 ⟨rfl, rfl⟩)
    all_goals
      go_ret
      exact ⟨retB (by rw [Hc.out]; simp; try omega), rfl⟩

/-- all bytes ahead of place k may stand in a name -/
def AllN (l : List UInt8) (k : Nat) : Prop := ∀ x ∈ l.take k, isN x = true
theorem AllN.more {l : List UInt8} {k : Nat} {c : UInt8} (h : AllN l k) (hk : l[k]? = some c) (hc : isN c = true) : AllN l (k + 1) := by
  intro x hx
  rw [take_at hk] at hx
  rcases List.mem_append.1 hx with hx | hx
  · exact h x hx
  · simp at hx; subst hx; exact hc

set_option maxRecDepth 100000 in
set_option maxHeartbeats 800000 in
theorem nread_any (s : ByteArray) (w : World) (hs : s.size ≤ 1000000) : Calls Tryz.prog 89 #[.string s] w fun e w' => e = .returned (.int .i64 (rdN (bs s) : Nat)) ∧ w = w' := by
  by_cases h0 : s.size = 0
  · obtain rfl := is_empty s h0
    go_enter Tryz.func89, Tryz.ntmps89
    go_wp2_with fail
    go_ret
    exact ⟨rfl, rfl⟩
  · have hne := ne_empty s (by omega)
    have h0' : 0 < s.size := by omega
    have HR := Lib.hid (rdN_cons (bs_at s 0 h0'))
    cases hL : isL s[0]
    · rw [hL] at HR
      have hl := isLetter_any s[0] w
      rw [hL] at hl
      have Hl := Lib.hid hl; clear hl
      go_enter Tryz.func89, Tryz.ntmps89
      go_wp2_with (go_at_call 111; refine Hl.out.mono ?_; rintro e w1 ⟨rfl, rfl⟩)
      go_ret
      exact ⟨by rw [HR.out]; rfl, rfl⟩
    · rw [hL] at HR
      have hl := isLetter_any s[0] w
      rw [hL] at hl
      have Hl := Lib.hid hl; clear hl
      go_enter Tryz.func89, Tryz.ntmps89
      go_wp2_with (go_at_call 111; refine Hl.out.mono ?_; rintro e w1 ⟨rfl, rfl⟩)
      go_loop [14] (fun i => ∃ k : Nat, k ≤ s.size ∧ i = .int .i64 k ∧ Hid (AllN (bs s) k)) (fun i => s.size - (intOf i).toNat)
      case atStart => exact ⟨0, by omega, rfl, fun x hx => by cases hx⟩
      case round =>
        obtain ⟨k, hk, rfl, hall⟩ := hrel
        by_cases hlt : k < s.size
        · have Hat := Lib.hid (bs_at s k hlt)
          have hn := isNameByte_any s[k] w
          cases hN : isN s[k]
          · rw [hN] at hn
            have Hn := Lib.hid hn; clear hn
            have Hv : Hid (rdN (bs s) = k) := by
              show _ = _
              rw [HR.out]; exact runN_eq hall.out Hat.out hN
            go_wp2_with (go_at_call 112; refine Hn.out.mono ?_; rintro e w1 ⟨rfl, rfl⟩)
            go_ret
            exact ⟨by rw [Hv.out]; rfl, rfl⟩
          · rw [hN] at hn
            have Hn := Lib.hid hn; clear hn
            have Hm := Lib.hid (hall.out.more Hat.out hN)
            go_wp2_with (go_at_call 112; refine Hn.out.mono ?_; rintro e w1 ⟨rfl, rfl⟩)
            go_round
            case rel => exact ⟨k + 1, by omega, by go_num, Hm.out⟩
            case measure => simp [intOf]; omega
        · have Hv : Hid (rdN (bs s) = s.size) := by
            show _ = _
            rw [HR.out, ← bs_length]
            refine runN_all fun x hx => hall.out x ?_
            rw [List.take_of_length_le (by rw [bs_length]; omega)]; exact hx
          go_wp2
          go_ret
          exact ⟨by rw [Hv.out]; rfl, rfl⟩

set_option maxRecDepth 100000 in
set_option maxHeartbeats 800000 in
theorem nrread_any (s : ByteArray) (w : World) (hs : s.size ≤ 1000000) : Calls Tryz.prog 46 #[.string s] w fun e w' => e = .returned (.int .i64 (rdN (bs s) : Nat)) ∧ w = w' := by
  go_enter Tryz.func46, Tryz.ntmps46
  go_wp2_with fail
  go_loop [3] (fun i => ∃ k : Nat, k ≤ s.size ∧ i = .int .i64 k ∧ Hid (AllN (bs s) k) ∧ Hid (0 < k → ∃ c, (bs s)[0]? = some c ∧ isL c = true)) (fun i => s.size - (intOf i).toNat)
  case atStart => exact ⟨0, by omega, rfl, fun x hx => (by cases hx), fun h => absurd h (by omega)⟩
  case round =>
    obtain ⟨k, hk, rfl, hall, hfirst⟩ := hrel
    by_cases hlt : k < s.size
    · have Hat := Lib.hid (bs_at s k hlt)
      have h0' : 0 < s.size := by omega
      have HR := Lib.hid (rdN_cons (bs_at s 0 h0'))
      have HN := fun w => Part_any s[k] w
      have HL := fun w => letter_any s[0] w
      cases hN : isN s[k]
      · have Hv : Hid (rdN (bs s) = k) := by
          show _ = _
          by_cases hk0 : k = 0
          · subst hk0
            rw [HR.out]
            have : isL s[0] = false := by
              cases hL : isL s[0]
              · rfl
              · rw [isN_of_isL hL] at hN; cases hN
            rw [this]; rfl
          · obtain ⟨c, h1, h2⟩ := hfirst.out (by omega)
            rw [rdN_cons h1, h2]; exact runN_eq hall.out Hat.out hN
        have HN' := HN w; rw [hN] at HN'
        have Hn := Lib.hid HN'; clear HN' HN HL
        go_wp2_with (go_at_call 73; refine Hn.out.mono ?_; rintro e w1 ⟨rfl, rfl⟩)
        go_ret
        exact ⟨by rw [Hv.out]; rfl, rfl⟩
      · have HN' := HN w; rw [hN] at HN'
        have Hn := Lib.hid HN'; clear HN' HN
        have Hm := Lib.hid (hall.out.more Hat.out hN)
        by_cases hk0 : k = 0
        · subst hk0
          have HL' := HL w
          cases hL : isL s[0]
          · rw [hL] at HL'
            have Hl := Lib.hid HL'; clear HL' HL
            have Hv : Hid (rdN (bs s) = 0) := by show _ = _; rw [HR.out, hL]; rfl
            go_wp2_with (first | (go_at_call 73; refine Hn.out.mono ?_; rintro e w1 ⟨rfl, rfl⟩) | (go_at_call 74; refine Hl.out.mono ?_; rintro e w1 ⟨rfl, rfl⟩))
            go_ret
            exact ⟨by rw [Hv.out]; rfl, rfl⟩
          · rw [hL] at HL'
            have Hl := Lib.hid HL'; clear HL' HL
            have HF : Hid (∃ c, (bs s)[0]? = some c ∧ isL c = true) := ⟨_, Hat.out, hL⟩
            go_wp2_with (first | (go_at_call 73; refine Hn.out.mono ?_; rintro e w1 ⟨rfl, rfl⟩) | (go_at_call 74; refine Hl.out.mono ?_; rintro e w1 ⟨rfl, rfl⟩))
            go_round
            case rel => exact ⟨1, by omega, by go_num, Hm.out, fun _ => HF.out⟩
            case measure => simp [intOf]; omega
        · have d1 : decide ((0 : Int) < (k : Int)) = true := by simp; omega
          clear HL
          go_wp2_with (go_at_call 73; refine Hn.out.mono ?_; rintro e w1 ⟨rfl, rfl⟩)
          go_round
          case rel => exact ⟨k + 1, by omega, by go_num, Hm.out, fun _ => hfirst.out (by omega)⟩
          case measure => simp [intOf]; omega
    · have Hv : Hid (rdN (bs s) = k) := by
        show _ = _
        have hk2 : k = (bs s).length := by rw [bs_length]; omega
        by_cases hk0 : k = 0
        · have : bs s = [] := List.eq_nil_of_length_eq_zero (by omega)
          rw [this, hk0]; rfl
        · obtain ⟨c, h1, h2⟩ := hfirst.out (by omega)
          rw [rdN_cons h1, h2, hk2]
          refine runN_all fun x hx => hall.out x ?_
          rw [List.take_of_length_le (by omega)]; exact hx
      go_wp2
      go_ret
      exact ⟨by rw [Hv.out]; rfl, rfl⟩

theorem rightN_of {l : List UInt8} (h0 : 0 < l.length) (h1 : l.length ≤ 16) : rightN l = decide (rdN l = l.length) := by simp [rightN, h0, h1]
theorem rightN_long {l : List UInt8} (h1 : 16 < l.length) : rightN l = false := by
  have : decide (l.length ≤ 16) = false := by simp; omega
  simp [rightN, this]
set_option maxRecDepth 100000 in
set_option maxHeartbeats 800000 in
theorem nright_any (s : ByteArray) (w : World) (hs : s.size ≤ 1000000) : Calls Tryz.prog 69 #[.string s] w fun e w' => e = .returned (.bool (rightN (bs s))) ∧ w = w' := by
  by_cases h0 : s.size = 0
  · obtain rfl := is_empty s h0
    go_enter Tryz.func69, Tryz.ntmps69
    go_wp2_with fail
    go_ret
    exact ⟨rfl, rfl⟩
  · have hne := ne_empty s (by omega)
    by_cases h1 : s.size ≤ 16
    · have HR := Lib.hid (rightN_of (l := bs s) (by rw [bs_length]; omega) (by rw [bs_length]; omega))
      rw [bs_length] at HR
      have HC := Lib.hid (nread_any s w hs)
      have d1 : decide ((s.size : Int) ≤ 16) = true := by simp; omega
      generalize hn : rdN (bs s) = n at HC HR
      clear hn
      go_enter Tryz.func69, Tryz.ntmps69
      go_wp2_with (go_at_call 89; refine HC.out.mono ?_; rintro e w1 ⟨rfl, rfl⟩)
      go_ret
      exact ⟨retB (by rw [HR.out]; simp; try omega), rfl⟩
    · have HR := Lib.hid (rightN_long (l := bs s) (by rw [bs_length]; omega))
      have d1 : decide ((s.size : Int) ≤ 16) = false := by simp; omega
      go_enter Tryz.func69, Tryz.ntmps69
      go_wp2_with fail
      go_ret
      exact ⟨by rw [HR.out]; rfl, rfl⟩
set_option maxRecDepth 100000 in
set_option maxHeartbeats 800000 in
theorem nrright_any (s : ByteArray) (w : World) (hs : s.size ≤ 1000000) : Calls Tryz.prog 23 #[.string s] w fun e w' => e = .returned (.bool (rightN (bs s))) ∧ w = w' := by
  by_cases h0 : s.size = 0
  · obtain rfl := is_empty s h0
    go_enter Tryz.func23, Tryz.ntmps23
    go_wp2_with fail
    go_ret
    exact ⟨rfl, rfl⟩
  · have d0 : decide (0 < (s.size : Int)) = true := by simp; omega
    by_cases h1 : s.size ≤ 16
    · have HR := Lib.hid (rightN_of (l := bs s) (by rw [bs_length]; omega) (by rw [bs_length]; omega))
      rw [bs_length] at HR
      have HC := Lib.hid (nrread_any s w hs)
      have d1 : decide ((s.size : Int) ≤ 16) = true := by simp; omega
      generalize hn : rdN (bs s) = n at HC HR
      clear hn
      go_enter Tryz.func23, Tryz.ntmps23
      go_wp2_with (go_at_call 46; refine HC.out.mono ?_; rintro e w1 ⟨rfl, rfl⟩)
      go_ret
      exact ⟨retB (by rw [HR.out]; simp; try omega), rfl⟩
    · have HR := Lib.hid (rightN_long (l := bs s) (by rw [bs_length]; omega))
      have d1 : decide ((s.size : Int) ≤ 16) = false := by simp; omega
      go_enter Tryz.func23, Tryz.ntmps23
      go_wp2_with fail
      go_ret
      exact ⟨by rw [HR.out]; rfl, rfl⟩

end Go.Proofs.YtebldfnocpcddaaGreatDoor

/-
  Contracts of package name's Order and of the document's own.
-/
namespace Go.Proofs.YtebldfnocpcddaaGreatDoor
open Go.RowKit

/-- draws alone lie between -/
def Drew (w w' : World) : Prop := ∃ q, w' = w.drewN q
theorem Drew.refl (w : World) : Drew w w := ⟨0, rfl⟩
theorem Drew.more {w w' : World} (h : Drew w w') (q : Nat) : Drew w (w'.drewN q) := by
  obtain ⟨n, rfl⟩ := h
  exact ⟨n + q, by simp⟩
theorem Drew.one {w w' : World} (h : Drew w w') : Drew w w'.drew := h.more 1
theorem Drew.trans {a b c : World} (h : Drew a b) (h2 : Drew b c) : Drew a c := by
  obtain ⟨q, rfl⟩ := h2
  exact h.more q
theorem Drew.below {w w' : World} (h : Drew w w') (B : Nat) : Below B w w' := by
  obtain ⟨q, rfl⟩ := h
  exact ⟨rfl, rfl, rfl, Nat.le_refl _, fun _ _ => rfl⟩
theorem Drew.size {w w' : World} (h : Drew w w') : w'.heap.size = w.heap.size := by
  obtain ⟨q, rfl⟩ := h; rfl
theorem Drew.cell {w w' : World} (h : Drew w w') (p : Addr) : w'.cell? p = w.cell? p := by
  obtain ⟨q, rfl⟩ := h; rfl

end Go.Proofs.YtebldfnocpcddaaGreatDoor

/-
  Quoted strings, plainly. It speaks of no program.
-/
namespace Go.Proofs.YtebldfnocpcddaaGreatDoor

/-- a digit from 0 to 9 and a to f -/
def hexd (n : Nat) : UInt8 := UInt8.ofNat (if n < 10 then 48 + n else 87 + n)
/-- how a byte stands between quotes -/
def frm (c : UInt8) : List UInt8 :=
  if c.toNat = 34 ∨ c.toNat = 92 then [92, c] else if c.toNat = 10 then [92, 110] else if c.toNat < 32 ∨ 126 < c.toNat then [92, 120, hexd (c.toNat / 16), hexd (c.toNat % 16)] else [c]
/-- the bytes of a string, as they stand between quotes -/
def qb (l : List UInt8) : List UInt8 := l.flatMap frm
/-- a quoted string -/
def qt (l : List UInt8) : List UInt8 := 34 :: (qb l ++ [34])
theorem qb_append (a b : List UInt8) : qb (a ++ b) = qb a ++ qb b := by simp [qb]
theorem qb_one (c : UInt8) : qb [c] = frm c := by simp [qb]
theorem frm_len (c : UInt8) : (frm c).length ≤ 4 ∧ 0 < (frm c).length := by
  unfold frm; split
  · simp
  · split
    · simp
    · split
      · simp
      · simp
theorem qb_len : ∀ l : List UInt8, (qb l).length ≤ 4 * l.length
  | [] => by simp [qb]
  | c :: r => by
    have h1 := qb_len r
    have h2 := (frm_len c).1
    have e : qb (c :: r) = frm c ++ qb r := by simp [qb]
    rw [e, List.length_append, List.length_cons]; omega
end Go.Proofs.YtebldfnocpcddaaGreatDoor

/-
  What a quoted string denotes, and what two names a path has, plainly. It speaks of no program.
-/
namespace Go.Proofs.YtebldfnocpcddaaGreatDoor

/-- the digits -/
def hexl : List UInt8 := [48, 49, 50, 51, 52, 53, 54, 55, 56, 57, 97, 98, 99, 100, 101, 102]
/-- which digit a byte is, or -1 -/
def hx (c : UInt8) : Int := Lib.indexByte hexl c
theorem hx_hexd (n : Nat) (h : n < 16) : hx (hexd n) = n := by
  have : ∀ k : Fin 16, hx (hexd k.1) = (k.1 : Int) := by decide
  exact this ⟨n, h⟩
theorem hx_range (c : UInt8) : -1 ≤ hx c ∧ hx c ≤ 15 := by
  have : ∀ k : Fin 256, -1 ≤ hx (UInt8.ofNat k.1) ∧ hx (UInt8.ofNat k.1) ≤ 15 := by decide +kernel
  have h := this ⟨c.toNat, c.toNat_lt⟩
  simpa using h

theorem frm_cases (c : UInt8) : (frm c = [c] ∧ c ≠ 92 ∧ c ≠ 34) ∨ (frm c = [92, c] ∧ (c = 34 ∨ c = 92)) ∨ (frm c = [92, 110] ∧ c = 10) ∨ frm c = [92, 120, hexd (c.toNat / 16), hexd (c.toNat % 16)] := by
  have e34 : c.toNat = 34 ↔ c = 34 := ⟨fun h => UInt8.toNat_inj.1 h, fun h => by rw [h]; rfl⟩
  have e92 : c.toNat = 92 ↔ c = 92 := ⟨fun h => UInt8.toNat_inj.1 h, fun h => by rw [h]; rfl⟩
  have e10 : c.toNat = 10 ↔ c = 10 := ⟨fun h => UInt8.toNat_inj.1 h, fun h => by rw [h]; rfl⟩
  unfold frm
  split
  · rename_i h; exact .inr (.inl ⟨rfl, h.imp e34.1 e92.1⟩)
  · rename_i h
    split
    · rename_i h2; exact .inr (.inr (.inl ⟨rfl, e10.1 h2⟩))
    · split
      · exact .inr (.inr (.inr rfl))
      · exact .inl ⟨rfl, fun h3 => h (.inr (e92.2 h3)), fun h3 => h (.inl (e34.2 h3))⟩

/-- the byte whose form can stand at the beginning -/
def dec : List UInt8 → UInt8
  | [] => 0
  | a :: t => if a = 92 then (match t with
    | [] => 0
    | b :: u => if b = 110 then 10 else if b = 120 then (match u with
      | h :: k :: _ => UInt8.ofNat (16 * (hx h).toNat + (hx k).toNat)
      | _ => 0) else b) else a
theorem dec_frm (c : UInt8) (x : List UInt8) : dec (frm c ++ x) = c := by
  have hc := c.toNat_lt
  rcases frm_cases c with ⟨h, h2, _⟩ | ⟨h, h2⟩ | ⟨h, h2⟩ | h
  · rw [h]; simp [dec, h2]
  · rw [h]; rcases h2 with rfl | rfl <;> simp [dec]
  · rw [h, h2]; simp [dec]
  · rw [h]
    simp only [dec, List.cons_append, List.nil_append, if_true]
    rw [if_neg (by decide), hx_hexd _ (by omega), hx_hexd _ (by omega)]
    simp only [Int.toNat_natCast]
    rw [show 16 * (c.toNat / 16) + c.toNat % 16 = c.toNat by omega]
    simp
theorem frm_inj {c d : UInt8} {x y : List UInt8} (h : frm c ++ x = frm d ++ y) : c = d ∧ x = y := by
  have h1 : c = d := by rw [← dec_frm c x, h, dec_frm]
  subst h1
  exact ⟨rfl, List.append_cancel_left h⟩
theorem frm_head (c : UInt8) (x y : List UInt8) : frm c ++ x ≠ 34 :: y := fun h => by
  rcases frm_cases c with ⟨h2, _, h3⟩ | ⟨h2, _⟩ | ⟨h2, _⟩ | h2
  all_goals
    rw [h2] at h
    simp at h
  exact h3 h.1
theorem frm_ne (c : UInt8) (x : List UInt8) : frm c ++ x ≠ [] := fun h => by
  have h1 := (frm_len c).2
  have h2 := congrArg List.length h
  simp at h2
  rw [h2.1] at h1
  simp at h1

theorem qb_cons (c : UInt8) (r : List UInt8) : qb (c :: r) = frm c ++ qb r := by simp [qb]
theorem qb_snoc (r : List UInt8) (c : UInt8) : qb (r ++ [c]) = qb r ++ frm c := by simp [qb]
theorem qt_app (t r : List UInt8) : qt t ++ r = 34 :: (qb t ++ 34 :: r) := by simp [qt]
theorem qt_len (t : List UInt8) : (qt t).length = (qb t).length + 2 := by simp [qt]
theorem qb_inj : ∀ {t u x y : List UInt8}, qb t ++ 34 :: x = qb u ++ 34 :: y → t = u ∧ x = y
  | [], [], x, y, h => by simp [qb] at h; exact ⟨rfl, h⟩
  | [], d :: u, x, y, h => by
    rw [qb_cons, List.append_assoc] at h
    exact absurd h.symm (frm_head d _ _)
  | c :: t, [], x, y, h => by
    rw [qb_cons, List.append_assoc] at h
    exact absurd h (frm_head c _ _)
  | c :: t, d :: u, x, y, h => by
    rw [qb_cons, qb_cons, List.append_assoc, List.append_assoc] at h
    obtain ⟨rfl, h2⟩ := frm_inj h
    obtain ⟨rfl, h3⟩ := qb_inj h2
    exact ⟨rfl, h3⟩
theorem qt_inj {t u x y : List UInt8} (h : qt t ++ x = qt u ++ y) : t = u ∧ x = y := by
  rw [qt_app, qt_app] at h
  exact qb_inj (List.cons.inj h).2
/-- nothing that is quoted begins so -/
theorem qb_stop : ∀ {t r : List UInt8}, (∀ c, ¬ frm c <+: r) → (∀ x, r ≠ 34 :: x) → ∀ u y, qb t ++ r ≠ qb u ++ 34 :: y
  | [], r, h1, h2, [], y, h => h2 y (by simpa [qb] using h)
  | [], r, h1, h2, d :: u, y, h => by
    rw [qb_cons, List.append_assoc] at h
    exact h1 d ⟨_, by simpa [qb] using h.symm⟩
  | c :: t, r, h1, h2, [], y, h => by
    rw [qb_cons, List.append_assoc] at h
    exact frm_head c _ _ h
  | c :: t, r, h1, h2, d :: u, y, h => by
    rw [qb_cons, qb_cons, List.append_assoc, List.append_assoc] at h
    obtain ⟨_, h3⟩ := frm_inj h
    exact qb_stop h1 h2 u y h3

open Classical in
/-- what a quoted string at the beginning denotes, its length, and whether there is one -/
noncomputable def uq (l : List UInt8) : List UInt8 × Nat × Bool :=
  if h : ∃ t r, l = qt t ++ r then (h.choose, (qt h.choose).length, true) else ([], 0, false)
theorem uq_yes {l t r : List UInt8} (h : l = qt t ++ r) : uq l = (t, (qt t).length, true) := by
  have hex : ∃ t r, l = qt t ++ r := ⟨t, r, h⟩
  unfold uq
  rw [dif_pos hex]
  obtain ⟨r2, h2⟩ := hex.choose_spec
  have h3 : hex.choose = t := (qt_inj (h2.symm.trans h)).1
  rw [h3]
theorem uq_no {l : List UInt8} (h : ∀ t r, l ≠ qt t ++ r) : uq l = ([], 0, false) := by
  unfold uq
  rw [dif_neg]
  rintro ⟨t, r, h2⟩
  exact h t r h2
theorem uq_back {l t : List UInt8} {n : Nat} (h : uq l = (t, n, true)) : n ≤ l.length ∧ qt t = l.take n := by
  by_cases hex : ∃ t r, l = qt t ++ r
  · obtain ⟨t2, r2, h2⟩ := hex
    rw [uq_yes h2] at h
    cases h
    subst h2
    simp
  · rw [uq_no (fun t r h2 => hex ⟨t, r, h2⟩)] at h
    cases h
theorem uq_false {l t : List UInt8} {n : Nat} (h : uq l = (t, n, false)) : t = [] ∧ n = 0 := by
  by_cases hex : ∃ t r, l = qt t ++ r
  · obtain ⟨t2, r2, h2⟩ := hex
    rw [uq_yes h2] at h
    cases h
  · rw [uq_no (fun t r h2 => hex ⟨t, r, h2⟩)] at h
    cases h; exact ⟨rfl, rfl⟩

/-- the reader has come to place p and has t -/
def Unq (l t : List UInt8) (p : Nat) : Prop := p = 1 + (qb t).length ∧ l = 34 :: (qb t ++ l.drop p)
theorem Unq.start {l : List UInt8} (h : l[0]? = some 34) : Unq l [] 1 := by
  cases l with
  | nil => simp at h
  | cons a r => simp at h; subst h; exact ⟨by simp [qb], by simp [qb]⟩
theorem Unq.stop {l t : List UInt8} {p : Nat} (h : Unq l t p) (hp : l[p]? = some 34) : uq l = (t, p + 1, true) := by
  obtain ⟨h1, h2⟩ := h
  rw [drop_at hp, ← qt_app] at h2
  rw [uq_yes h2, qt_len, h1]
  congr 2; omega
theorem Unq.none {l t : List UInt8} {p : Nat} (h : Unq l t p) (h1 : ∀ c, ¬ frm c <+: l.drop p) (h2 : l[p]? ≠ some 34) : uq l = ([], 0, false) := by
  refine uq_no fun u r he => ?_
  rw [h.2, qt_app] at he
  refine qb_stop h1 (fun x hx => h2 ?_) u r (List.cons.inj he).2
  have := congrArg (fun z : List UInt8 => z[0]?) hx
  simpa using this
theorem Unq.more {l t : List UInt8} {p : Nat} {c : UInt8} (h : Unq l t p) (h1 : frm c <+: l.drop p) : Unq l (t ++ [c]) (p + (frm c).length) := by
  obtain ⟨r, hr⟩ := h1
  refine ⟨by rw [qb_snoc, List.length_append, h.1]; omega, ?_⟩
  have e : l.drop (p + (frm c).length) = r := by rw [← List.drop_drop, ← hr]; simp
  rw [e, qb_snoc, List.append_assoc, hr]
  exact h.2
theorem uq_start {l : List UInt8} (h : l[0]? ≠ some 34) : uq l = ([], 0, false) := by
  refine uq_no fun t r he => h ?_
  rw [he, qt_app]; rfl

theorem frm_at {c : UInt8} {l : List UInt8} (h : frm c <+: l) : (l[0]? = some c ∧ c ≠ 92) ∨ (l[0]? = some 92 ∧ l[1]? = some c ∧ (c = 34 ∨ c = 92)) ∨ (l[0]? = some 92 ∧ l[1]? = some 110 ∧ c = 10) ∨
    (l[0]? = some 92 ∧ l[1]? = some 120 ∧ l[2]? = some (hexd (c.toNat / 16)) ∧ l[3]? = some (hexd (c.toNat % 16))) := by
  obtain ⟨r, rfl⟩ := h
  rcases frm_cases c with ⟨h, h2, _⟩ | ⟨h, h2⟩ | ⟨h, h2⟩ | h
  · rw [h]; exact .inl ⟨rfl, h2⟩
  · rw [h]; exact .inr (.inl ⟨rfl, rfl, h2⟩)
  · rw [h]; exact .inr (.inr (.inl ⟨rfl, rfl, h2⟩))
  · rw [h]; exact .inr (.inr (.inr ⟨rfl, rfl, rfl, rfl⟩))
/-- what guess hands back -/
def Guess (l : List UInt8) (b : UInt8) (ok : Bool) : Prop := ∀ c, frm c <+: l → ok = true ∧ b = c
theorem guess0 {l : List UInt8} {a : UInt8} (h : l[0]? = some a) (ha : a ≠ 92) : Guess l a true := fun c hc => by
  refine ⟨rfl, ?_⟩
  rcases frm_at hc with ⟨h1, _⟩ | ⟨h1, _⟩ | ⟨h1, _⟩ | ⟨h1, _⟩
  · rw [h] at h1; exact Option.some.inj h1
  all_goals rw [h] at h1; exact absurd (Option.some.inj h1) ha
theorem guess1 {l : List UInt8} (h : l[0]? = some 92) (h1 : l[1]? = none) : Guess l 0 false := fun c hc => by
  rcases frm_at hc with ⟨h2, h3⟩ | ⟨_, h2, _⟩ | ⟨_, h2, _⟩ | ⟨_, h2, _⟩
  · rw [h] at h2; exact absurd (Option.some.inj h2).symm h3
  all_goals rw [h1] at h2; cases h2
theorem guess2 {l : List UInt8} (h : l[0]? = some 92) (h1 : l[1]? = some 110) : Guess l 10 true := fun c hc => by
  rcases frm_at hc with ⟨h2, h3⟩ | ⟨_, h2, h3⟩ | ⟨_, _, h2⟩ | ⟨_, h2, _⟩
  · rw [h] at h2; exact absurd (Option.some.inj h2).symm h3
  · rw [h1] at h2
    have := Option.some.inj h2
    subst this
    rcases h3 with h3 | h3 <;> exact absurd h3 (by decide)
  · exact ⟨rfl, h2.symm⟩
  · rw [h1] at h2; exact absurd (Option.some.inj h2) (by decide)
theorem guess3 {l : List UInt8} {b : UInt8} (h : l[0]? = some 92) (h1 : l[1]? = some b) (hb : b ≠ 110) (hb2 : b ≠ 120) : Guess l b true := fun c hc => by
  rcases frm_at hc with ⟨h2, h3⟩ | ⟨_, h2, h3⟩ | ⟨_, h2, _⟩ | ⟨_, h2, _⟩
  · rw [h] at h2; exact absurd (Option.some.inj h2).symm h3
  · rw [h1] at h2; exact ⟨rfl, Option.some.inj h2⟩
  · rw [h1] at h2; exact absurd (Option.some.inj h2) hb
  · rw [h1] at h2; exact absurd (Option.some.inj h2) hb2
theorem guess_x {l : List UInt8} {c : UInt8} (h : l[0]? = some 92) (h1 : l[1]? = some 120) (hc : frm c <+: l) : l[2]? = some (hexd (c.toNat / 16)) ∧ l[3]? = some (hexd (c.toNat % 16)) := by
  rcases frm_at hc with ⟨h2, h3⟩ | ⟨_, h2, h3⟩ | ⟨_, h2, _⟩ | ⟨_, _, h2⟩
  · rw [h] at h2; exact absurd (Option.some.inj h2).symm h3
  · rw [h1] at h2
    have := Option.some.inj h2
    subst this
    rcases h3 with h3 | h3 <;> exact absurd h3 (by decide)
  · rw [h1] at h2; exact absurd (Option.some.inj h2) (by decide)
  · exact h2
theorem guess4 {l : List UInt8} (h : l[0]? = some 92) (h1 : l[1]? = some 120) (h3 : l[3]? = none) : Guess l 0 false := fun c hc => by
  have := (guess_x h h1 hc).2
  rw [h3] at this; cases this
theorem guess5 {l : List UInt8} {a b : UInt8} (h : l[0]? = some 92) (h1 : l[1]? = some 120) (h2 : l[2]? = some a) (h3 : l[3]? = some b) (hn : hx a < 0 ∨ hx b < 0) : Guess l 0 false := fun c hc => by
  have hlt := c.toNat_lt
  obtain ⟨h4, h5⟩ := guess_x h h1 hc
  rw [h2] at h4; rw [h3] at h5
  rw [Option.some.inj h4, Option.some.inj h5, hx_hexd _ (by omega), hx_hexd _ (by omega)] at hn
  omega
theorem guess6 {l : List UInt8} {a b : UInt8} (h : l[0]? = some 92) (h1 : l[1]? = some 120) (h2 : l[2]? = some a) (h3 : l[3]? = some b) : Guess l (UInt8.ofNat (16 * (hx a).toNat + (hx b).toNat)) true := fun c hc => by
  have hlt := c.toNat_lt
  obtain ⟨h4, h5⟩ := guess_x h h1 hc
  rw [h2] at h4; rw [h3] at h5
  rw [Option.some.inj h4, Option.some.inj h5, hx_hexd _ (by omega), hx_hexd _ (by omega)]
  refine ⟨rfl, ?_⟩
  simp only [Int.toNat_natCast]
  rw [show 16 * (c.toNat / 16) + c.toNat % 16 = c.toNat by omega]
  simp
end Go.Proofs.YtebldfnocpcddaaGreatDoor

/-
  Paths, plainly. It speaks of no program.
-/
namespace Go.Proofs.YtebldfnocpcddaaGreatDoor

theorem idx_split : ∀ (l : List UInt8) (c : UInt8), (Lib.indexByte l c = -1 ∧ c ∉ l) ∨ ∃ a b, l = a ++ c :: b ∧ c ∉ a ∧ Lib.indexByte l c = (a.length : Int)
  | [], c => .inl ⟨rfl, by simp⟩
  | x :: r, c => by
    by_cases hx : x = c
    · subst hx
      exact .inr ⟨[], r, rfl, by simp, by simp [Lib.indexByte]⟩
    · have hx' : (x == c) = false := by simpa using hx
      rcases idx_split r c with ⟨h1, h2⟩ | ⟨a, b, h1, h2, h3⟩
      · refine .inl ⟨by simp [Lib.indexByte, hx', h1], ?_⟩
        intro hm
        rcases List.mem_cons.1 hm with h | h
        · exact hx h.symm
        · exact h2 h
      · refine .inr ⟨x :: a, b, by rw [h1]; rfl, ?_, ?_⟩
        · intro hm
          rcases List.mem_cons.1 hm with h | h
          · exact hx h.symm
          · exact h2 h
        · have h4 : ((a.length : Int) == -1) = false := by simp
          simp [Lib.indexByte, hx', h3, h4]

open Classical in
/-- the two names of a path -/
noncomputable def sp (l : List UInt8) : List UInt8 × List UInt8 × Bool :=
  if h : ∃ q : List UInt8 × List UInt8, l = q.1 ++ 46 :: q.2 ∧ rightN q.1 = true ∧ rightN q.2 = true then (h.choose.1, h.choose.2, true) else ([], [], false)
theorem dot_inj : ∀ {a b c d : List UInt8}, (46 : UInt8) ∉ a → (46 : UInt8) ∉ c → a ++ 46 :: b = c ++ 46 :: d → a = c ∧ b = d
  | [], b, [], d, _, _, h => ⟨rfl, by simpa using h⟩
  | [], b, y :: c, d, _, h2, h => by
    simp at h
    exact absurd h.1 (fun e => h2 (by rw [← e]; simp))
  | x :: a, b, [], d, h1, _, h => by
    simp at h
    exact absurd h.1 (fun e => h1 (by rw [e]; simp))
  | x :: a, b, y :: c, d, h1, h2, h => by
    simp at h
    obtain ⟨h3, h4⟩ := dot_inj (a := a) (c := c) (fun hm => h1 (List.mem_cons_of_mem _ hm)) (fun hm => h2 (List.mem_cons_of_mem _ hm)) h.2
    exact ⟨by rw [h.1, h3], h4⟩
theorem sp_yes {l a b : List UInt8} (h : l = a ++ 46 :: b) (ha : rightN a = true) (hb : rightN b = true) : sp l = (a, b, true) := by
  have hex : ∃ q : List UInt8 × List UInt8, l = q.1 ++ 46 :: q.2 ∧ rightN q.1 = true ∧ rightN q.2 = true := ⟨(a, b), h, ha, hb⟩
  unfold sp
  rw [dif_pos hex]
  obtain ⟨h2, h3, h4⟩ := hex.choose_spec
  obtain ⟨h5, h6⟩ := dot_inj (right_nodot h3) (right_nodot ha) (h2.symm.trans h)
  rw [h5, h6]
theorem sp_no {l : List UInt8} (h : ∀ a b, l = a ++ 46 :: b → rightN a = true → rightN b = true → False) : sp l = ([], [], false) := by
  unfold sp
  rw [dif_neg]
  rintro ⟨q, h1, h2, h3⟩
  exact h q.1 q.2 h1 h2 h3
theorem sp_none {l : List UInt8} (h : (46 : UInt8) ∉ l) : sp l = ([], [], false) := sp_no fun a b h1 _ _ => h (by rw [h1]; simp)
theorem sp_bad {l a b : List UInt8} (h : l = a ++ 46 :: b) (ha : (46 : UInt8) ∉ a) (hb : rightN a = false ∨ rightN b = false) : sp l = ([], [], false) := sp_no fun c d h1 h2 h3 => by
  obtain ⟨h4, h5⟩ := dot_inj ha (right_nodot h2) (h.symm.trans h1)
  rw [h4, h5, h2, h3] at hb
  rcases hb with hb | hb <;> cases hb
/-- no path ends ahead of place k -/
def Nop (l : List UInt8) (k : Nat) : Prop := ∀ j, j < k → ¬ (l[j]? = some 46 ∧ rightN (l.take j) = true ∧ rightN (l.drop (j + 1)) = true)
theorem split_at {l : List UInt8} {k : Nat} (h : l[k]? = some 46) : l = l.take k ++ 46 :: l.drop (k + 1) := by
  rw [← drop_at h, List.take_append_drop]
theorem Nop.all {l : List UInt8} (h : Nop l l.length) : sp l = ([], [], false) := sp_no fun a b h1 h2 h3 => by
  refine h a.length (by rw [h1]; simp) ⟨by rw [h1]; simp, by rw [h1]; simpa using h2, ?_⟩
  rw [h1]
  have : (a ++ 46 :: b).drop (a.length + 1) = b := by rw [List.drop_append]; simp
  rw [this]; exact h3
theorem Nop.more {l : List UInt8} {k : Nat} (h : Nop l k) (h2 : ¬ (l[k]? = some 46 ∧ rightN (l.take k) = true ∧ rightN (l.drop (k + 1)) = true)) : Nop l (k + 1) := fun j hj => by
  by_cases e : j = k
  · rw [e]; exact h2
  · exact h j (by omega)
end Go.Proofs.YtebldfnocpcddaaGreatDoor

/-
  Contracts of package name's form, Quote and of the document's own one, Quote.
-/
namespace Go.Proofs.YtebldfnocpcddaaGreatDoor
open Go.RowKit

/-- two bytes, built as a slice, made into a string -/
theorem run_string_two (w : World) (b : Nat) (cap : Nat) (z0 z1 : Int) (c0 c1 : UInt8) (hz0 : z0 = (c0.toNat : Int)) (hz1 : z1 = (c1.toNat : Int)) (h0 : w.cell? ⟨b, 0, none⟩ = some (.int .u8 z0)) (h1 : w.cell? ⟨b, 1, none⟩ = some (.int .u8 z1)) :
    (convert 47 9 (.slice (some ⟨b, 0, none⟩) 2 cap)).run Tryz.prog w = .ok (.string ⟨#[c0, c1]⟩) w := by
  subst hz0 hz1
  refine run_convert_bytes_back w 47 9 5 ⟨b, 0, none⟩ cap [c0, c1] Tryz.underlying47 Tryz.underlying5 Tryz.underlying9 fun j hj => ?_
  match j, hj with
  | 0, _ => simpa [Addr.add] using h0
  | 1, _ => simpa [Addr.add] using h1
/-- four bytes, built as a slice, made into a string -/
theorem run_string_four (w : World) (b : Nat) (cap : Nat) (z0 z1 z2 z3 : Int) (c0 c1 c2 c3 : UInt8) (hz0 : z0 = (c0.toNat : Int)) (hz1 : z1 = (c1.toNat : Int)) (hz2 : z2 = (c2.toNat : Int)) (hz3 : z3 = (c3.toNat : Int))
    (h0 : w.cell? ⟨b, 0, none⟩ = some (.int .u8 z0)) (h1 : w.cell? ⟨b, 1, none⟩ = some (.int .u8 z1)) (h2 : w.cell? ⟨b, 2, none⟩ = some (.int .u8 z2)) (h3 : w.cell? ⟨b, 3, none⟩ = some (.int .u8 z3)) :
    (convert 47 9 (.slice (some ⟨b, 0, none⟩) 4 cap)).run Tryz.prog w = .ok (.string ⟨#[c0, c1, c2, c3]⟩) w := by
  subst hz0 hz1 hz2 hz3
  refine run_convert_bytes_back w 47 9 5 ⟨b, 0, none⟩ cap [c0, c1, c2, c3] Tryz.underlying47 Tryz.underlying5 Tryz.underlying9 fun j hj => ?_
  match j, hj with
  | 0, _ => simpa [Addr.add] using h0
  | 1, _ => simpa [Addr.add] using h1
  | 2, _ => simpa [Addr.add] using h2
  | 3, _ => simpa [Addr.add] using h3

/-- the digits as the program has them -/
def dgs : ByteArray := ⟨#[48, 49, 50, 51, 52, 53, 54, 55, 56, 57, 97, 98, 99, 100, 101, 102]⟩
theorem dgs_at (k : Nat) (hk : k < 16) : dgs[k]'hk = hexd k := by
  have h : ∀ k : Fin 16, dgs[k.1]'k.2 = hexd k.1 := by decide
  exact h ⟨k, hk⟩

theorem dgs_cut (k : Nat) (hk : k < 16) : dgs.extract k (k + 1) = ⟨#[hexd k]⟩ := by
  have h : ∀ k : Fin 16, bs (dgs.extract k.1 (k.1 + 1)) = [hexd k.1] := by
    intro k
    rw [bs_extract]
    revert k; decide
  exact bs_eq (h ⟨k, hk⟩)

set_option maxRecDepth 100000 in
set_option maxHeartbeats 800000 in
theorem form_any (c : UInt8) (w : World) : Calls Tryz.prog 118 #[.int .u8 (c.toNat : Int)] w fun e w' => e = .returned (.string ⟨(frm c).toArray⟩) ∧ Below w.heap.size w w' := by
  have hc : c.toNat < 256 := c.toNat_lt
  have Hf : Hid (frm c = if c.toNat = 34 ∨ c.toNat = 92 then [92, c] else if c.toNat = 10 then [92, 110] else if c.toNat < 32 ∨ 126 < c.toNat then [92, 120, hexd (c.toNat / 16), hexd (c.toNat % 16)] else [c]) := rfl
  by_cases h1 : c.toNat = 34 ∨ c.toNat = 92
  · rw [if_pos h1] at Hf
    have hcv := fun w' => run_string_two w' w.heap.size 2 92 (c.toNat : Int) 92 c rfl rfl
    rcases h1 with h1 | h1
    · have d1 : ((c.toNat : Int) == 34) = true := by simp; omega
      clear h1
      go_enter Tryz.func118, Tryz.ntmps118
      go_wp2_with fail
      go_ret
      exact ⟨by rw [Hf.out]; rfl, (Below.refl _ _).alloc (Nat.le_refl _) _⟩
    · have d1 : ((c.toNat : Int) == 34) = false := by simp; omega
      have d2 : ((c.toNat : Int) == 92) = true := by simp; omega
      clear h1
      go_enter Tryz.func118, Tryz.ntmps118
      go_wp2_with fail
      go_ret
      exact ⟨by rw [Hf.out]; rfl, (Below.refl _ _).alloc (Nat.le_refl _) _⟩
  have d1 : ((c.toNat : Int) == 34) = false := by simp; omega
  have d2 : ((c.toNat : Int) == 92) = false := by simp; omega
  rw [if_neg h1] at Hf
  by_cases h2 : c.toNat = 10
  · rw [if_pos h2] at Hf
    have hcv := fun w' => run_string_two w' w.heap.size 2 92 110 92 110 rfl rfl
    have d3 : ((c.toNat : Int) == 10) = true := by simp; omega
    clear h2
    go_enter Tryz.func118, Tryz.ntmps118
    go_wp2_with fail
    go_ret
    exact ⟨by rw [Hf.out]; rfl, (Below.refl _ _).alloc (Nat.le_refl _) _⟩
  rw [if_neg h2] at Hf
  have d3 : ((c.toNat : Int) == 10) = false := by simp; omega
  by_cases h3 : c.toNat < 32 ∨ 126 < c.toNat
  · rw [if_pos h3] at Hf
    have b1 : (0 : Int) ≤ (c.toNat : Int) % 16 := by omega
    have b2 : (c.toNat : Int) % 16 < 16 := by omega
    have b3 : (0 : Int) ≤ (c.toNat : Int) / 16 := by omega
    have b4 : (c.toNat : Int) / 16 < 16 := by omega
    have c1 : c.toNat / 16 < 16 := by omega
    have c2 : c.toNat % 16 < 16 := by omega
    have hcv := fun w' => run_string_four w' w.heap.size 4 92 120 _ _ 92 120 (dgs[c.toNat / 16]'c1) (dgs[c.toNat % 16]'c2) rfl rfl rfl rfl
    unfold dgs at hcv
    rcases h3 with h3 | h3
    all_goals
      go_enter Tryz.func118, Tryz.ntmps118
      go_wp2_with fail
      go_region
      go_wp2
      go_ret
      exact ⟨by rw [Hf.out, ← dgs_at _ c1, ← dgs_at _ c2]; rfl, ((Below.refl _ _).alloc (Nat.le_refl _) _).drew⟩
  · rw [if_neg h3] at Hf
    have hcv := fun w' => run_string_one w' w.heap.size 1 (c.toNat : Int) c rfl
    have d4 : decide ((c.toNat : Int) < 32) = false := by simp; omega
    have d5 : decide (126 < (c.toNat : Int)) = false := by simp; omega
    go_enter Tryz.func118, Tryz.ntmps118
    go_wp2_with fail
    go_ret
    exact ⟨by rw [Hf.out]; rfl, (Below.refl _ _).alloc (Nat.le_refl _) _⟩

set_option maxRecDepth 100000 in
set_option maxHeartbeats 1600000 in
theorem quote_any (s : ByteArray) (w : World) (hs : s.size ≤ 1000000) : Calls Tryz.prog 95 #[.string s] w fun e w' => e = .returned (.string ⟨(qt (bs s)).toArray⟩) ∧ Below w.heap.size w w' := by
  go_enter Tryz.func95, Tryz.ntmps95
  go_wp2_with fail
  go_loopw [3, 8] (fun v i wr => ∃ k : Nat, k ≤ s.size ∧ i = .int .i64 k ∧ Hid (OwnB wr w.heap.size v (34 :: qb ((bs s).take k))) ∧ Below w.heap.size w wr) (fun _ i _ => s.size - (intOf i).toNat)
  case atStart => 
    refine ⟨0, by omega, rfl, ?_, (Below.refl _ _).alloc (Nat.le_refl _) _⟩
    exact World.ownsRow_lit w #[.int .u8 34] 1 (Nat.le_refl _) (by decide) rfl
  case round =>
    obtain ⟨k, hk, rfl, ho, hb⟩ := hrel
    have hsz := hb.size
    by_cases hlt : k < s.size
    · have Hat := Lib.hid (bs_at s k hlt)
      have hlen := Lib.hid (qb_len ((bs s).take k))
      go_wp2_with fail
      refine (form_any s[k] _).mono ?_
      rintro e w1 ⟨rfl, hb1⟩
      have hs1 := hb1.size
      have ho1 := ho.out.below hb1
      have hl1 : (34 :: qb ((bs s).take k)).length + (⟨(frm s[k]).toArray⟩ : ByteArray).size < 1099511627776 := by
        have h1 := hlen.out
        have h2 := (frm_len s[k]).1
        have h3 := List.length_take_le k (bs s)
        rw [ba_size, List.length_cons]; omega
      go_wp2_with (at_builtin; refine wpList_append_str rfl _ _ rfl w.heap.size _ _ _ ho1 rfl rfl hl1 (by omega) ?_; intro v' w2 ho2 hb2)
      go_roundw
      case rel => exact ⟨k + 1, by omega, by go_num, by show OwnB _ _ _ _; rw [take_at Hat.out, qb_append, qb_one]; exact ho2, (hb.trans (hb1.mono hsz)).trans hb2⟩
      case measure => simp [intOf]; omega
    · have Hk : Hid ((bs s).take k = bs s) := by show _ = _; rw [List.take_of_length_le (by rw [bs_length]; omega)]
      rw [Hk.out] at ho
      have hlen := Lib.hid (qb_len (bs s))
      have hl1 : (34 :: qb (bs s)).length < 1099511627776 := by
        have h1 := hlen.out
        have h3 := bs_length s
        rw [List.length_cons]; omega
      have ho1 := ho.out
      go_wp2_with (at_builtin; refine wpList_append_byte rfl _ _ rfl w.heap.size _ _ 34 34 ho1 rfl rfl rfl hl1 (by omega) ?_; intro v' w2 ho2 hb2; have hcv := run_string_own ho2 w2 (fun _ => rfl); clear ho2)
      go_ret
      exact ⟨rfl, hb.trans hb2⟩

set_option maxRecDepth 100000 in
set_option maxHeartbeats 1600000 in
theorem one_any (c : UInt8) (w : World) : Calls Tryz.prog 77 #[.int .u8 (c.toNat : Int)] w fun e w' => e = .returned (.string ⟨(frm c).toArray⟩) ∧ Below w.heap.size w w' := by
  have hc : c.toNat < 256 := c.toNat_lt
  have Hf : Hid (frm c = if c.toNat = 34 ∨ c.toNat = 92 then [92, c] else if c.toNat = 10 then [92, 110] else if c.toNat < 32 ∨ 126 < c.toNat then [92, 120, hexd (c.toNat / 16), hexd (c.toNat % 16)] else [c]) := rfl
  by_cases h1 : c.toNat = 34 ∨ c.toNat = 92
  · rw [if_pos h1] at Hf
    have hcv := fun w' => run_string_two w' w.heap.size 2 92 (c.toNat : Int) 92 c rfl rfl
    rcases h1 with h1 | h1
    · have d1 : ((c.toNat : Int) == 34) = true := by simp; omega
      clear h1
      go_enter Tryz.func77, Tryz.ntmps77
      go_wp2_with fail
      go_ret
      exact ⟨by rw [Hf.out]; rfl, (Below.refl _ _).alloc (Nat.le_refl _) _⟩
    · have d1 : ((c.toNat : Int) == 34) = false := by simp; omega
      have d2 : ((c.toNat : Int) == 92) = true := by simp; omega
      clear h1
      go_enter Tryz.func77, Tryz.ntmps77
      go_wp2_with fail
      go_ret
      exact ⟨by rw [Hf.out]; rfl, (Below.refl _ _).alloc (Nat.le_refl _) _⟩
  have d1 : ((c.toNat : Int) == 34) = false := by simp; omega
  have d2 : ((c.toNat : Int) == 92) = false := by simp; omega
  rw [if_neg h1] at Hf
  by_cases h2 : c.toNat = 10
  · rw [if_pos h2] at Hf
    have d3 : ((c.toNat : Int) == 10) = true := by simp; omega
    clear h2
    go_enter Tryz.func77, Tryz.ntmps77
    go_wp2_with fail
    go_ret
    exact ⟨by rw [Hf.out]; rfl, Below.refl _ _⟩
  rw [if_neg h2] at Hf
  have d3 : ((c.toNat : Int) == 10) = false := by simp; omega
  by_cases h3 : c.toNat < 32 ∨ 126 < c.toNat
  · rw [if_pos h3] at Hf
    have b1 : (0 : Int) ≤ (c.toNat : Int) % 16 := by omega
    have b2 : (c.toNat : Int) % 16 < 16 := by omega
    have b3 : (0 : Int) ≤ (c.toNat : Int) / 16 := by omega
    have b4 : (c.toNat : Int) / 16 < 16 := by omega
    have c1 : c.toNat / 16 < 16 := by omega
    have c2 : c.toNat % 16 < 16 := by omega
    have Hs : Hid (⟨#[92, 120]⟩ ++ dgs.extract (c.toNat / 16) (c.toNat / 16 + 1) ++ dgs.extract (c.toNat % 16) (c.toNat % 16 + 1) = ⟨[92, 120, hexd (c.toNat / 16), hexd (c.toNat % 16)].toArray⟩) := by
      show _ = _
      rw [dgs_cut _ c1, dgs_cut _ c2]; rfl
    rcases h3 with h3 | h3
    all_goals
      go_enter Tryz.func77, Tryz.ntmps77
      go_wp2_with fail
      go_quiet (fail)
      go_wp2
      go_ret
      exact ⟨by rw [Hf.out, ← Hs.out]; rfl, Drew.below ⟨_, rfl⟩ _⟩
  · rw [if_neg h3] at Hf
    have hcv := fun w' => run_string_one w' w.heap.size 1 (c.toNat : Int) c rfl
    have d4 : decide ((c.toNat : Int) < 32) = false := by simp; omega
    have d5 : decide (126 < (c.toNat : Int)) = false := by simp; omega
    go_enter Tryz.func77, Tryz.ntmps77
    go_wp2_with fail
    go_ret
    exact ⟨by rw [Hf.out]; rfl, (Below.refl _ _).alloc (Nat.le_refl _) _⟩

set_option maxRecDepth 100000 in
set_option maxHeartbeats 1600000 in
theorem rquote_any (s : ByteArray) (w : World) (hs : s.size ≤ 1000000) : Calls Tryz.prog 50 #[.string s] w fun e w' => e = .returned (.string ⟨(qt (bs s)).toArray⟩) ∧ Below w.heap.size w w' := by
  go_enter Tryz.func50, Tryz.ntmps50
  go_wp2_with fail
  go_loopw [3, 4] (fun v i wr => ∃ (k : Nat) (t : ByteArray), k ≤ s.size ∧ i = .int .i64 k ∧ v = .string t ∧ Hid (bs t = 34 :: qb ((bs s).take k)) ∧ Below w.heap.size w wr) (fun _ i _ => s.size - (intOf i).toNat)
  case atStart => exact ⟨0, ⟨#[34]⟩, by omega, rfl, rfl, rfl, Below.refl _ _⟩
  case round =>
    obtain ⟨k, t, hk, rfl, rfl, ht, hb⟩ := hrel
    have hsz := hb.size
    have htl : t.size ≤ 4 * k + 1 := by
      have h1 := qb_len ((bs s).take k)
      have h3 := List.length_take_le k (bs s)
      rw [← bs_length, ht.out, List.length_cons]; omega
    by_cases hlt : k < s.size
    · have Hat := Lib.hid (bs_at s k hlt)
      have Hn : Hid (bs (t ++ ⟨(frm s[k]).toArray⟩) = 34 :: qb ((bs s).take (k + 1))) := by
        show _ = _
        rw [bs_append, ht.out, take_at Hat.out, qb_append, qb_one]; rfl
      have hf : (⟨(frm s[k]).toArray⟩ : ByteArray).size ≤ 4 := by rw [ba_size]; exact (frm_len _).1
      have Hone := Lib.hid (fun w => one_any s[k] w)
      generalize hfk : (⟨(frm s[k]).toArray⟩ : ByteArray) = f at Hn hf Hone
      clear hfk
      have hadd := fun w' => run_string_add_sum (P := Tryz.prog) (w := w') t f (by omega)
      go_wp2_with (go_at_call 77; refine (Hone.out _).mono ?_; rintro e w1 ⟨rfl, hb1⟩)
      go_roundw
      case rel => exact ⟨k + 1, t ++ f, by omega, by go_num, rfl, Hn.out, hb.trans (hb1.mono hsz)⟩
      case measure => simp [intOf]; omega
    · have Hn : Hid (t ++ ⟨#[34]⟩ = ⟨(qt (bs s)).toArray⟩) := by
        show _ = _
        refine bs_eq ?_
        rw [bs_append, ht.out, List.take_of_length_le (by rw [bs_length]; omega)]; rfl
      have hadd := fun w' => run_string_add_sum (P := Tryz.prog) (w := w') t ⟨#[34]⟩ (by show t.size + 1 ≤ _; omega)
      go_wp2
      go_ret
      exact ⟨by rw [← Hn.out]; rfl, hb⟩
end Go.Proofs.YtebldfnocpcddaaGreatDoor
