/-
  Texts that the proof needs, one behind the other: ValRefDigC, ValRefNumM, ValRefNumS0, ValRefNumS1, ValRefNumC, ValRefUnhexC.
-/
import Derived.Deep.CutBlock
import Derived.Deep.DeepCutAuto
import Derived.Test.YtebldfnocpcddaaGreatDoorPart10
import Derived.Test.YtebldfnocpcddaaGreatDoorPart3
import Derived.Test.YtebldfnocpcddaaGreatDoorPart4

/-
  Contract of the document's own Digits.
-/
namespace Go.Proofs.YtebldfnocpcddaaGreatDoor
open Go.RowKit

/-- the ten digits as the document has them -/
def ten : ByteArray := ⟨#[48, 49, 50, 51, 52, 53, 54, 55, 56, 57]⟩
theorem ten_cut (n : Int) (h0 : 0 ≤ n) (h1 : n < 10) : ten.extract n.toNat (n + 1).toNat = ⟨(dz n).toArray⟩ := by
  obtain ⟨k, rfl⟩ := Int.eq_ofNat_of_zero_le h0
  have h : ∀ k : Fin 10, bs (ten.extract k.1 (k.1 + 1)) = [dg k.1] := by
    intro k
    rw [bs_extract]
    revert k; decide
  have hk : k < 10 := by omega
  refine bs_eq ?_
  rw [dz_pos h0, Int.natAbs_natCast, dn_lt hk, Int.toNat_natCast, show ((k : Int) + 1).toNat = k + 1 by omega]
  exact h ⟨k, hk⟩
set_option maxRecDepth 100000 in
set_option maxHeartbeats 800000 in
theorem rdigits_one (n : Int) (w : World) (h0 : 0 ≤ n) (h1 : n < 10) : Calls Tryz.prog 49 #[.int .i64 n] w fun e w' => e = .returned (.string ⟨(dz n).toArray⟩) ∧ w = w' := by
  have d1 : decide (-10 < n) = true := by simp; omega
  have d2 : decide (n < 0) = false := by simp; omega
  have d3 : decide (0 ≤ n) = true := by simp; omega
  have d4 : decide (n < 10) = true := by simp; omega
  have Hc := Lib.hid (ten_cut n h0 h1)
  unfold ten at Hc
  go_enter Tryz.func49, Tryz.ntmps49
  go_wp2_with fail
  go_ret
  exact ⟨by rw [← Hc.out]; rfl, rfl⟩
set_option maxRecDepth 100000 in
set_option maxHeartbeats 800000 in
theorem rdigits_minus (n : Int) (w : World) (h0 : -10 < n) (h1 : n < 0) : Calls Tryz.prog 49 #[.int .i64 n] w fun e w' => e = .returned (.string ⟨(dz n).toArray⟩) ∧ w = w' := by
  have d1 : decide (-10 < n) = true := by simp; omega
  have d2 : decide (n < 0) = true := by simp; omega
  have H1 := Lib.hid (fun w => rdigits_one (-n) w (by omega) (by omega))
  have Hs : Hid (⟨#[45]⟩ ++ ⟨(dz (-n)).toArray⟩ = (⟨(dz n).toArray⟩ : ByteArray)) := by
    show _ = _
    refine bs_eq ?_
    rw [bs_append, dz_neg h1]
    show [45] ++ dz (-n) = _
    rw [dz_pos (by omega), Int.natAbs_neg]; rfl
  have hx : (⟨(dz (-n)).toArray⟩ : ByteArray).size ≤ 20 := by rw [ba_size]; exact dz_len _ (by omega) (by omega)
  generalize (⟨(dz (-n)).toArray⟩ : ByteArray) = X at H1 Hs hx
  have hadd := fun w' => run_string_add_sum (P := Tryz.prog) (w := w') ⟨#[45]⟩ X (by show 1 + X.size ≤ _; omega)
  go_enter Tryz.func49, Tryz.ntmps49
  go_wp2_with fail
  refine (H1.out _).mono ?_
  rintro e w1 ⟨rfl, rfl⟩
  go_wp2_with fail
  go_ret
  exact ⟨by rw [← Hs.out]; rfl, rfl⟩
theorem dz_step (n : Int) (h : 10 ≤ n ∨ n ≤ -10) : dz n = dz (n.tdiv 10) ++ dz (n.natAbs % 10 : Nat) := by
  rw [dz_pos (z := (n.natAbs % 10 : Nat)) (by omega), Int.natAbs_natCast, dn_lt (by omega : n.natAbs % 10 < 10)]
  have e : (n.tdiv 10).natAbs = n.natAbs / 10 := by rw [Int.natAbs_tdiv]; rfl
  rcases h with h | h
  · have h0 : 0 ≤ n.tdiv 10 := Int.tdiv_nonneg (by omega) (by omega)
    rw [dz_pos (by omega), dz_pos h0, e, dn_ge (by omega)]
  · have h0 : n.tdiv 10 < 0 := by
      obtain ⟨m, rfl⟩ : ∃ m : Nat, n = -(m : Int) := ⟨n.natAbs, by omega⟩
      rw [Int.neg_tdiv]
      have : ((m : Int)).tdiv 10 = ((m / 10 : Nat) : Int) := rfl
      rw [this]; omega
    rw [dz_neg (by omega), dz_neg h0, e, dn_ge (by omega)]; rfl
theorem tmod_neg (n : Int) (h : n ≤ 0) : n.tmod 10 = -((n.natAbs % 10 : Nat) : Int) := by
  obtain ⟨m, rfl⟩ : ∃ m : Nat, n = -(m : Int) := ⟨n.natAbs, by omega⟩
  rw [Int.neg_tmod, Int.natAbs_neg, Int.natAbs_natCast]
  rfl
set_option maxRecDepth 100000 in
set_option maxHeartbeats 800000 in
theorem rdigits_aux (N : Nat) : ∀ (n : Int) (w : World), n.natAbs ≤ N → -9223372036854775808 ≤ n → n < 9223372036854775808 → Calls Tryz.prog 49 #[.int .i64 n] w fun e w' => e = .returned (.string ⟨(dz n).toArray⟩) ∧ w = w' := by
  induction N with
  | zero => exact fun n w h _ _ => rdigits_one n w (by omega) (by omega)
  | succ N ih =>
    intro n w hN h1 h2
    by_cases hs : 0 ≤ n ∧ n < 10
    · exact rdigits_one n w hs.1 hs.2
    by_cases hs2 : -10 < n ∧ n < 0
    · exact rdigits_minus n w hs2.1 hs2.2
    have e : (n.tdiv 10).natAbs = n.natAbs / 10 := by rw [Int.natAbs_tdiv]; rfl
    have H1 := Lib.hid (fun w => ih (n.tdiv 10) w (by omega) (by omega) (by omega))
    have H2 := Lib.hid (fun w => rdigits_one ((n.natAbs % 10 : Nat) : Int) w (by omega) (by omega))
    have Hs : Hid (⟨(dz (n.tdiv 10)).toArray⟩ ++ ⟨(dz ((n.natAbs % 10 : Nat) : Int)).toArray⟩ = (⟨(dz n).toArray⟩ : ByteArray)) := by
      show _ = _
      refine bs_eq ?_
      rw [bs_append, bs_mk, bs_mk, bs_mk, ← dz_step n (by omega)]
    have hx : (⟨(dz (n.tdiv 10)).toArray⟩ : ByteArray).size ≤ 20 := by rw [ba_size]; exact dz_len _ (by omega) (by omega)
    have hy : (⟨(dz ((n.natAbs % 10 : Nat) : Int)).toArray⟩ : ByteArray).size ≤ 20 := by rw [ba_size]; exact dz_len _ (by omega) (by omega)
    generalize (⟨(dz (n.tdiv 10)).toArray⟩ : ByteArray) = X at H1 Hs hx
    generalize (⟨(dz ((n.natAbs % 10 : Nat) : Int)).toArray⟩ : ByteArray) = Y at H2 Hs hy
    have hadd := fun w' => run_string_add_sum (P := Tryz.prog) (w := w') X Y (by omega)
    by_cases hp : 10 ≤ n
    · have t1 : n.tdiv 10 = n / 10 := Int.tdiv_eq_ediv_of_nonneg (by omega)
      rw [t1] at H1
      have t2 : ((n.natAbs % 10 : Nat) : Int) = n % 10 := by omega
      rw [t2] at H2
      have d1 : decide (-10 < n) = true := by simp; omega
      have d2 : decide (n < 0) = false := by simp; omega
      have d3 : decide (0 ≤ n) = true := by simp; omega
      have d4 : decide (n < 10) = false := by simp; omega
      have d5 : decide (n % 10 < 0) = false := by simp; omega
      clear t1 t2 e ih hs hs2 hN
      go_enter Tryz.func49, Tryz.ntmps49
      go_wp2_with fail
      refine (H1.out _).mono ?_
      rintro e w1 ⟨rfl, rfl⟩
      go_wp2_with fail
      refine (H2.out _).mono ?_
      rintro e w1 ⟨rfl, rfl⟩
      go_wp2_with fail
      go_ret
      exact ⟨by rw [← Hs.out]; rfl, rfl⟩
    · have t2 := tmod_neg n (by omega)
      have d1 : decide (-10 < n) = false := by simp; omega
      have d2 : decide (0 ≤ n) = false := by simp; omega
      by_cases hz : n.natAbs % 10 = 0
      · have t3 : n.tmod 10 = 0 := by rw [t2, hz]; rfl
        rw [hz] at H2
        clear t2 e ih hs hs2 hN hp hz
        go_enter Tryz.func49, Tryz.ntmps49
        go_wp2_with fail
        refine (H1.out _).mono ?_
        rintro e w1 ⟨rfl, rfl⟩
        go_wp2_with fail
        refine (H2.out _).mono ?_
        rintro e w1 ⟨rfl, rfl⟩
        go_wp2_with fail
        go_ret
        exact ⟨by rw [← Hs.out]; rfl, rfl⟩
      · have d3 : decide (n.tmod 10 < 0) = true := by simp; omega
        have t3 : wrap64 (-n.tmod 10) = ((n.natAbs % 10 : Nat) : Int) := by rw [t2]; go_arith
        rw [← t3] at H2
        clear t2 e ih hs hs2 hN hp hz t3
        go_enter Tryz.func49, Tryz.ntmps49
        go_wp2_with fail
        refine (H1.out _).mono ?_
        rintro e w1 ⟨rfl, rfl⟩
        go_wp2_with fail
        refine (H2.out _).mono ?_
        rintro e w1 ⟨rfl, rfl⟩
        go_wp2_with fail
        go_ret
        exact ⟨by rw [← Hs.out]; rfl, rfl⟩
theorem rdigits_any (n : Int) (w : World) (h1 : -9223372036854775808 ≤ n) (h2 : n < 9223372036854775808) : Calls Tryz.prog 49 #[.int .i64 n] w fun e w' => e = .returned (.string ⟨(dz n).toArray⟩) ∧ w = w' :=
  rdigits_aux n.natAbs n w (Nat.le_refl _) h1 h2
end Go.Proofs.YtebldfnocpcddaaGreatDoor

/-
  Ahead of the contract of the document's own Number: its mathematics.
-/
namespace Go.Proofs.YtebldfnocpcddaaGreatDoor
open Go.RowKit

/-- the digits from place st to place k -/
def mid (l : List UInt8) (st k : Nat) : List UInt8 := (l.drop st).take (k - st)
theorem mid_len {l : List UInt8} {st k : Nat} (h : k ≤ l.length) : (mid l st k).length = k - st := by simp [mid]; omega
theorem mid_more {l : List UInt8} {st k : Nat} {c : UInt8} (hk : st ≤ k) (h : l[k]? = some c) : mid l st (k + 1) = mid l st k ++ [c] := by
  unfold mid
  rw [show k + 1 - st = (k - st) + 1 by omega, take_at (c := c)]
  rw [List.getElem?_drop, show st + (k - st) = k by omega]; exact h
theorem mid_stop {l : List UInt8} {st k : Nat} (hk : st ≤ k) (hkl : k ≤ l.length) (hd : AllD (mid l st k)) (h : ∀ c, l[k]? = some c → isD c = false) : ldD (l.drop st) = mid l st k :=
  ldD_stop hd (fun c hc => h c (by rw [List.getElem?_drop, show st + (k - st) = k by omega] at hc; exact hc)) (by simp; omega)
theorem mid_at {l : List UInt8} {st k : Nat} (h : st < k) : (mid l st k)[0]? = l[st]? := by
  unfold mid
  rw [List.getElem?_take_of_lt (by omega), List.getElem?_drop, Nat.add_zero]
theorem AllD.more {l : List UInt8} {c : UInt8} (h : AllD l) (hc : isD c = true) : AllD (l ++ [c]) := by
  intro x hx
  rcases List.mem_append.1 hx with hx | hx
  · exact h x hx
  · simp at hx; subst hx; exact hc
theorem isD_no {c : UInt8} (h : isD c = false) : c.toNat < 48 ∨ 57 < c.toNat := by
  by_cases h1 : 48 ≤ c.toNat ∧ c.toNat ≤ 57
  · rw [(isD_iff c).2 h1] at h; cases h
  · omega
theorem mid_text {l : List UInt8} {st k : Nat} (hst : st = 0 ∨ st = 1) (h1 : sgAt l = st) (h2 : ldD (l.drop st) = mid l st k) (hk : st ≤ k) (hkl : k ≤ l.length) (hn : mid l st k ≠ [])
    (h0 : ¬ ((mid l st k)[0]? = some 48 ∧ (st = 1 ∨ 1 < (mid l st k).length))) : dz (numZ st (mid l st k)) = l.take k := by
  have ht := num_take l
  rw [h1, h2, mid_len hkl, show st + (k - st) = k by omega] at ht
  rw [ht, dz_num (can_of hn (by rw [← h2]; exact ldD_all _) h0) hst h0]
theorem numZ_zero (ds : List UInt8) : numZ 0 ds = (dv ds : Int) := if_neg (by omega)
theorem numZ_one (ds : List UInt8) : numZ 1 ds = -(dv ds : Int) := if_pos rfl
/-- no zero ahead of other digits, and none behind a sign -/
def NoZ (st : Nat) (ds : List UInt8) : Prop := ¬ (ds[0]? = some 48 ∧ (st = 1 ∨ 1 < ds.length))
theorem wrap64_in (z : Int) : -9223372036854775808 ≤ wrap64 z ∧ wrap64 z < 9223372036854775808 := by go_arith
theorem wrap64_id {z : Int} (h : fits64 z = true) : wrap64 z = z := by
  rw [fits64_iff] at h; go_arith
theorem wrap64_ne {z : Int} (h : fits64 z = false) : wrap64 z ≠ z := fun e => by
  have := wrap64_in z
  rw [e, ← fits64_iff, h] at this; cases this
theorem step64 (q d : Int) : wrap64 (wrap64 (10 * wrap64 (-q)) - d) = wrap64 (-(10 * q + d)) := by go_arith
theorem neg64 (q : Int) : wrap64 (-wrap64 (-q)) = wrap64 q := by go_arith

theorem mid_dig {l : List UInt8} {st k j : Nat} {c : UInt8} (h : AllD (mid l st k)) (h1 : st ≤ j) (h2 : j < k) (hc : l[j]? = some c) : isD c = true := by
  refine h c (List.mem_of_getElem? (i := j - st) ?_)
  unfold mid
  rw [List.getElem?_take_of_lt (by omega), List.getElem?_drop, show st + (j - st) = j by omega]; exact hc
theorem mid_ne {l : List UInt8} {st k : Nat} (h : k ≤ l.length) (hk : st < k) : mid l st k ≠ [] := fun e => by
  have := mid_len (st := st) h
  rw [e] at this; simp at this; omega
theorem mid_nil (l : List UInt8) (st : Nat) : mid l st st = [] := by simp [mid]
theorem some48 {l : List UInt8} {k : Nat} {c : UInt8} (h : l[k]? = some c) (hc : c.toNat = 48) : l[k]? = some 48 := by rw [h, u8_is (by omega) hc]; rfl
theorem no48 {l : List UInt8} {k : Nat} {c : UInt8} (h : l[k]? = some c) (hc : c.toNat ≠ 48) : l[k]? ≠ some 48 := fun e => hc (by rw [h] at e; rw [Option.some.inj e]; rfl)
end Go.Proofs.YtebldfnocpcddaaGreatDoor

/-
  Contract of the document's own Number at a string with no sign.
-/
namespace Go.Proofs.YtebldfnocpcddaaGreatDoor
open Go.RowKit

set_option maxRecDepth 100000 in
set_option maxHeartbeats 3200000 in
theorem rnumber_s0 (s : ByteArray) (w : World) (hs : s.size ≤ 1000000) (h0' : 0 < s.size) (hneg : ((s[0].toNat : Int) == 45) = false) (Hst : Hid (sgAt (bs s) = 0)) :
    Calls Tryz.prog 107 #[.string s] w fun e w' => e = .returned (numV (bs s)) ∧ Drew w w' := by
  have hne := ne_empty s h0'
  have Hv : Hid (∀ k z m e, ldD ((bs s).drop 0) = mid (bs s) 0 k → num2 0 (mid (bs s) 0 k) = (z, m, e) → numV (bs s) = .tuple #[.int .i64 z, .int .i64 (m : Nat), .int .i64 (e : Nat)]) := fun k z m e h1 h2 => numV_eq Hst.out h1 h2
  go_enter Tryz.func107, Tryz.ntmps107
  go_upto_block 0 with fail
  go_cut [6] (fun s6 wx => w = wx ∧ ∃ k : Nat, 0 ≤ k ∧ k ≤ s.size ∧ s6 = .int .i64 k ∧ Hid (AllD (mid (bs s) 0 k)) ∧ Hid (ldD ((bs s).drop 0) = mid (bs s) 0 k))
  case first =>
    go_wp2_with fail
    go_loop [6] (fun i => ∃ k : Nat, 0 ≤ k ∧ k ≤ s.size ∧ i = .int .i64 k ∧ Hid (AllD (mid (bs s) 0 k))) (fun i => s.size - (intOf i).toNat)
    case atStart => exact ⟨0, by omega, by omega, rfl, by show AllD _; rw [mid_nil]; exact fun x hx => by cases hx⟩
    case round =>
      obtain ⟨k, hk1, hk, rfl, hall⟩ := hrel
      by_cases hgo : ∃ h : k < s.size, isD s[k] = true
      · obtain ⟨hlt, hd⟩ := hgo
        have Hn := Lib.hid (hall.out.more hd)
        rw [← mid_more hk1 (bs_at s k hlt)] at Hn
        have hd2 := (isD_iff _).1 hd
        have d1 : decide ((48 : Int) ≤ (s[k].toNat : Int)) = true := by simp; omega
        have d2 : decide ((s[k].toNat : Int) ≤ 57) = true := by simp; omega
        clear hd hd2
        go_wp2_with fail
        go_round
        case rel => exact ⟨k + 1, by omega, by omega, by go_num, Hn.out⟩
        case measure => simp [intOf]; omega
      · have hstop : Hid (ldD ((bs s).drop 0) = mid (bs s) 0 k) := mid_stop hk1 (by rw [bs_length]; exact hk) hall.out (fun c hc => by
          cases hD : isD c
          · rfl
          · obtain ⟨h1, h2⟩ := List.getElem?_eq_some_iff.1 hc
            rw [bs_length] at h1
            refine absurd ⟨h1, ?_⟩ hgo
            have h3 := bs_at s k h1
            rw [hc] at h3
            rw [← Option.some.inj h3]; exact hD)
        have hway : decide (k < s.size) = false ∨ ∃ h : k < s.size, decide ((48 : Int) ≤ (s[k].toNat : Int)) = false ∨ (decide ((48 : Int) ≤ (s[k].toNat : Int)) = true ∧ decide ((s[k].toNat : Int) ≤ 57) = false) := by
          by_cases h : k < s.size
          · refine .inr ⟨h, ?_⟩
            by_cases h2 : 48 ≤ s[k].toNat
            · refine .inr ⟨by simp; omega, ?_⟩
              by_cases h3 : s[k].toNat ≤ 57
              · exact absurd ⟨h, (isD_iff _).2 ⟨h2, h3⟩⟩ hgo
              · simp; omega
            · exact .inl (by simp; omega)
          · exact .inl (by simpa using h)
        clear hgo
        rcases hway with hw1 | ⟨hlt, hw1 | ⟨hw1, hw2⟩⟩
        all_goals
          go_wp2_with fail
          go_meet
          exact ⟨rfl, k, hk1, hk, rfl, hall, hstop⟩
  case rest =>
    obtain ⟨rfl, k, hk1, hk, rfl, hall, hstop⟩ := hcut
    have kI : (k : Int) ≤ (s.size : Int) := by omega
    by_cases hk0 : k = 0
    · subst hk0
      have Hr := Lib.hid (Hv.out 0 _ _ _ hstop.out ((congrArg (num2 0) (mid_nil _ _)).trans (num2_nil _)))
      clear Hv hstop hall
      go_wp2_with fail
      go_ret3
      exact ⟨by rw [Hr.out]; rfl, Drew.refl _⟩
    have hka : 0 < k := by omega
    have dk : ((k : Int) == 0) = false := by simp; omega
    have hal : 0 < s.size := by omega
    have A1 := Lib.hid (bs_at s 0 hal)
    have Hm0 := Lib.hid (mid_at (l := bs s) hka)
    have Hlen := Lib.hid (mid_len (st := 0) (l := bs s) (k := k) (by rw [bs_length]; exact hk))
    have Hnn := Lib.hid (mid_ne (l := bs s) (st := 0) (k := k) (by rw [bs_length]; exact hk) hka)
    by_cases hz : s[0].toNat = 48 ∧ 1 < k
    · have Hr := Lib.hid (Hv.out k _ _ _ hstop.out (num2_zero (Hm0.out.trans (some48 A1.out hz.1)) (.inr (by rw [Hlen.out]; omega))))
      clear Hv hstop hall
      have d48 : ((s[0].toNat : Int) == 48) = true := by simp; omega
      have d1k : decide (1 < (k : Int)) = true := by simp; omega
      go_wp2_with fail
      all_goals
        go_ret3
        exact ⟨by rw [Hr.out]; rfl, Drew.refl _⟩
    have Hz : Hid (NoZ 0 (mid (bs s) 0 k)) := fun ⟨e1, e2⟩ => by
      have e3 : s[0].toNat = 48 := Classical.byContradiction fun h => no48 A1.out h (Hm0.out.symm.trans e1)
      rw [Hlen.out] at e2
      omega
    have dz1 : ((s[0].toNat : Int) == 48) = false ∨ (((s[0].toNat : Int) == 48) = true ∧ decide (1 < (k : Int)) = false) := by
      by_cases h : s[0].toNat = 48
      · exact .inr ⟨by simp; omega, by simp; omega⟩
      · exact .inl (by simp; omega)
    clear hz
    by_cases h19 : 19 < k - 0
    · have Hr := Lib.hid (Hv.out k _ _ _ hstop.out (num2_no Hnn.out Hz.out (long_no (can_of Hnn.out hall.out Hz.out) (by rw [Hlen.out]; exact h19) _)))
      have d19 : decide (19 < ((k : Int))) = true := by simp; omega
      clear Hv hstop hall
      rcases dz1 with dz1 | ⟨dz1, dz2⟩
      all_goals
        go_wp2_with fail
        go_ret3
        exact ⟨by rw [Hr.out]; rfl, Drew.refl _⟩
    have d19 : decide (19 < ((k : Int))) = false := by simp; omega
    have Htx := Lib.hid (mid_text (by omega) Hst.out hstop.out hk1 (by rw [bs_length]; exact hk) Hnn.out Hz.out)
    rcases dz1 with dz1 | ⟨dz1, dz2⟩
    all_goals
      go_wp2_with fail
      go_loop [7, 8] (fun n i => ∃ (j q : Nat) (z : Int), 0 ≤ j ∧ j ≤ k ∧ i = .int .i64 j ∧ n = .int .i64 z ∧ Hid (z = wrap64 (-(q : Int))) ∧ Hid (q = dv (mid (bs s) 0 j))) (fun _ i => k - (intOf i).toNat)
      case atStart => exact ⟨0, 0, 0, by omega, by omega, rfl, rfl, by show _ = _; go_arith, by show _ = _; rw [mid_nil]; rfl⟩
      case round =>
        obtain ⟨j, q, z, hj0, hj, rfl, rfl, hzq, hq⟩ := hrel
        by_cases hjk : j < k
        · have hjs : j < s.size := by omega
          have hdj := (isD_iff _).1 (mid_dig hall.out hj0 hjk (bs_at s j hjs))
          obtain ⟨hd1, hd2⟩ := hdj
          have Hq2 : Hid (10 * q + (s[j].toNat - 48) = dv (mid (bs s) 0 (j + 1))) := by
            show _ = _
            rw [mid_more hj0 (bs_at s j hjs), dv_snoc, hq.out]
          have Hz2 : Hid (wrap64 (wrap64 (10 * z) - ((s[j].toNat : Int) - 48)) = wrap64 (-((10 * q + (s[j].toNat - 48) : Nat) : Int))) := by
            show _ = _
            rw [hzq.out, step64, show ((10 * q + (s[j].toNat - 48) : Nat) : Int) = 10 * (q : Int) + ((s[j].toNat : Int) - 48) by omega]
          clear hq hzq
          go_wp2_with fail
          go_round
          case rel => exact ⟨j + 1, _, _, by omega, by omega, by go_num, rfl, Hz2.out, Hq2.out⟩
          case measure => simp [intOf]; omega
        · obtain rfl : j = k := by omega
          have HN : Hid (wrap64 (-z) = wrap64 (numZ 0 (mid (bs s) 0 j))) := by
            show _ = _
            rw [hzq.out, hq.out, neg64, numZ_zero]
          have kI0 : (0 : Int) ≤ (j : Int) := by omega
          clear hzq hq hjk hj0
          go_wp2_with fail
          generalize wrap64 (-z) = N at HN ⊢
          have HB := wrap64_in (numZ 0 (mid (bs s) 0 j))
          rw [← HN.out] at HB
          obtain ⟨hB1, hB2⟩ := HB
          have HD := Lib.hid (fun w => (rdigits_any N w hB1 hB2).mono fun e w' ⟨h1, h2⟩ => (⟨h1, h2.symm⟩ : e = _ ∧ w' = w))
          clear hB1 hB2
          cases hf : fits64 (numZ 0 (mid (bs s) 0 j))
          · have Hr := Lib.hid (Hv.out j _ _ _ hstop.out (num2_no Hnn.out Hz.out hf))
            have hc : ((⟨(dz N).toArray⟩ : ByteArray).toList == (s.extract 0 j).toList) = false := cmp_ne (fun e => by
              have h1 := congrArg bs e
              rw [bs_mk (dz N), bs_front, ← Htx.out, HN.out] at h1
              exact wrap64_ne hf (dz_inj h1))
            generalize (⟨(dz N).toArray⟩ : ByteArray) = X at HD hc
            clear Hv hstop hall
            go_quiet (first | (go_at_call 49; refine Calls.quiet_of_same (HD.out _)))
            go_wp2
            go_ret3
            exact ⟨by rw [Hr.out]; rfl, ⟨_, rfl⟩⟩
          · have Hr := Lib.hid (Hv.out j _ _ _ hstop.out (num2_yes Hnn.out Hz.out hf))
            rw [Hlen.out, show 0 + (j - 0) = j by omega] at Hr
            have hX : (⟨(dz N).toArray⟩ : ByteArray) = s.extract 0 j := bs_eq (by
              rw [bs_front, ← Htx.out, HN.out, wrap64_id hf]
              exact bs_mk _)
            rw [hX] at HD
            clear hX
            have hc : ((s.extract 0 j).toList == (s.extract 0 j).toList) = true := by simp
            rw [← wrap64_id hf, ← HN.out] at Hr
            clear Hv hstop hall
            go_quiet (first | (go_at_call 49; refine Calls.quiet_of_same (HD.out _)))
            go_wp2
            go_ret3
            exact ⟨by rw [Hr.out]; rfl, ⟨_, rfl⟩⟩
end Go.Proofs.YtebldfnocpcddaaGreatDoor

/-
  Contract of the document's own Number at a string with a sign.
-/
namespace Go.Proofs.YtebldfnocpcddaaGreatDoor
open Go.RowKit

set_option maxRecDepth 100000 in
set_option maxHeartbeats 3200000 in
theorem rnumber_s1 (s : ByteArray) (w : World) (hs : s.size ≤ 1000000) (h0' : 0 < s.size) (hneg : ((s[0].toNat : Int) == 45) = true) (Hst : Hid (sgAt (bs s) = 1)) :
    Calls Tryz.prog 107 #[.string s] w fun e w' => e = .returned (numV (bs s)) ∧ Drew w w' := by
  have hne := ne_empty s h0'
  have Hv : Hid (∀ k z m e, ldD ((bs s).drop 1) = mid (bs s) 1 k → num2 1 (mid (bs s) 1 k) = (z, m, e) → numV (bs s) = .tuple #[.int .i64 z, .int .i64 (m : Nat), .int .i64 (e : Nat)]) := fun k z m e h1 h2 => numV_eq Hst.out h1 h2
  go_enter Tryz.func107, Tryz.ntmps107
  go_upto_block 0 with fail
  go_cut [6] (fun s6 wx => w = wx ∧ ∃ k : Nat, 1 ≤ k ∧ k ≤ s.size ∧ s6 = .int .i64 k ∧ Hid (AllD (mid (bs s) 1 k)) ∧ Hid (ldD ((bs s).drop 1) = mid (bs s) 1 k))
  case first =>
    go_wp2_with fail
    go_loop [6] (fun i => ∃ k : Nat, 1 ≤ k ∧ k ≤ s.size ∧ i = .int .i64 k ∧ Hid (AllD (mid (bs s) 1 k))) (fun i => s.size - (intOf i).toNat)
    case atStart => exact ⟨1, by omega, by omega, rfl, by show AllD _; rw [mid_nil]; exact fun x hx => by cases hx⟩
    case round =>
      obtain ⟨k, hk1, hk, rfl, hall⟩ := hrel
      by_cases hgo : ∃ h : k < s.size, isD s[k] = true
      · obtain ⟨hlt, hd⟩ := hgo
        have Hn := Lib.hid (hall.out.more hd)
        rw [← mid_more hk1 (bs_at s k hlt)] at Hn
        have hd2 := (isD_iff _).1 hd
        have d1 : decide ((48 : Int) ≤ (s[k].toNat : Int)) = true := by simp; omega
        have d2 : decide ((s[k].toNat : Int) ≤ 57) = true := by simp; omega
        clear hd hd2
        go_wp2_with fail
        go_round
        case rel => exact ⟨k + 1, by omega, by omega, by go_num, Hn.out⟩
        case measure => simp [intOf]; omega
      · have hstop : Hid (ldD ((bs s).drop 1) = mid (bs s) 1 k) := mid_stop hk1 (by rw [bs_length]; exact hk) hall.out (fun c hc => by
          cases hD : isD c
          · rfl
          · obtain ⟨h1, h2⟩ := List.getElem?_eq_some_iff.1 hc
            rw [bs_length] at h1
            refine absurd ⟨h1, ?_⟩ hgo
            have h3 := bs_at s k h1
            rw [hc] at h3
            rw [← Option.some.inj h3]; exact hD)
        have hway : decide (k < s.size) = false ∨ ∃ h : k < s.size, decide ((48 : Int) ≤ (s[k].toNat : Int)) = false ∨ (decide ((48 : Int) ≤ (s[k].toNat : Int)) = true ∧ decide ((s[k].toNat : Int) ≤ 57) = false) := by
          by_cases h : k < s.size
          · refine .inr ⟨h, ?_⟩
            by_cases h2 : 48 ≤ s[k].toNat
            · refine .inr ⟨by simp; omega, ?_⟩
              by_cases h3 : s[k].toNat ≤ 57
              · exact absurd ⟨h, (isD_iff _).2 ⟨h2, h3⟩⟩ hgo
              · simp; omega
            · exact .inl (by simp; omega)
          · exact .inl (by simpa using h)
        clear hgo
        rcases hway with hw1 | ⟨hlt, hw1 | ⟨hw1, hw2⟩⟩
        all_goals
          go_wp2_with fail
          go_meet
          exact ⟨rfl, k, hk1, hk, rfl, hall, hstop⟩
  case rest =>
    obtain ⟨rfl, k, hk1, hk, rfl, hall, hstop⟩ := hcut
    have kI : (k : Int) ≤ (s.size : Int) := by omega
    by_cases hk0 : k = 1
    · subst hk0
      have Hr := Lib.hid (Hv.out 1 _ _ _ hstop.out ((congrArg (num2 1) (mid_nil _ _)).trans (num2_nil _)))
      clear Hv hstop hall
      go_wp2_with fail
      go_ret3
      exact ⟨by rw [Hr.out]; rfl, Drew.refl _⟩
    have hka : 1 < k := by omega
    have dk : ((k : Int) == 1) = false := by simp; omega
    have hal : 1 < s.size := by omega
    have A1 := Lib.hid (bs_at s 1 hal)
    have Hm0 := Lib.hid (mid_at (l := bs s) hka)
    have Hlen := Lib.hid (mid_len (st := 1) (l := bs s) (k := k) (by rw [bs_length]; exact hk))
    have Hnn := Lib.hid (mid_ne (l := bs s) (st := 1) (k := k) (by rw [bs_length]; exact hk) hka)
    by_cases hz : s[1].toNat = 48
    · have Hr := Lib.hid (Hv.out k _ _ _ hstop.out (num2_zero (Hm0.out.trans (some48 A1.out hz)) (.inl rfl)))
      clear Hv hstop hall
      have d48 : ((s[1].toNat : Int) == 48) = true := by simp; omega
      go_wp2_with fail
      all_goals
        go_ret3
        exact ⟨by rw [Hr.out]; rfl, Drew.refl _⟩
    have Hz : Hid (NoZ 1 (mid (bs s) 1 k)) := fun ⟨e1, e2⟩ => by
      have e3 : s[1].toNat = 48 := Classical.byContradiction fun h => no48 A1.out h (Hm0.out.symm.trans e1)
      rw [Hlen.out] at e2
      omega
    have dz1 : ((s[1].toNat : Int) == 48) = false := by simp; omega
    clear hz
    by_cases h19 : 19 < k - 1
    · have Hr := Lib.hid (Hv.out k _ _ _ hstop.out (num2_no Hnn.out Hz.out (long_no (can_of Hnn.out hall.out Hz.out) (by rw [Hlen.out]; exact h19) _)))
      have d19 : decide (19 < ((k : Int) - 1)) = true := by simp; omega
      clear Hv hstop hall
      go_wp2_with fail
      go_ret3
      exact ⟨by rw [Hr.out]; rfl, Drew.refl _⟩
    have d19 : decide (19 < ((k : Int) - 1)) = false := by simp; omega
    have Htx := Lib.hid (mid_text (by omega) Hst.out hstop.out hk1 (by rw [bs_length]; exact hk) Hnn.out Hz.out)
    go_wp2_with fail
    go_loop [7, 8] (fun n i => ∃ (j q : Nat) (z : Int), 1 ≤ j ∧ j ≤ k ∧ i = .int .i64 j ∧ n = .int .i64 z ∧ Hid (z = wrap64 (-(q : Int))) ∧ Hid (q = dv (mid (bs s) 1 j))) (fun _ i => k - (intOf i).toNat)
    case atStart => exact ⟨1, 0, 0, by omega, by omega, rfl, rfl, by show _ = _; go_arith, by show _ = _; rw [mid_nil]; rfl⟩
    case round =>
      obtain ⟨j, q, z, hj0, hj, rfl, rfl, hzq, hq⟩ := hrel
      by_cases hjk : j < k
      · have hjs : j < s.size := by omega
        have hdj := (isD_iff _).1 (mid_dig hall.out hj0 hjk (bs_at s j hjs))
        obtain ⟨hd1, hd2⟩ := hdj
        have Hq2 : Hid (10 * q + (s[j].toNat - 48) = dv (mid (bs s) 1 (j + 1))) := by
          show _ = _
          rw [mid_more hj0 (bs_at s j hjs), dv_snoc, hq.out]
        have Hz2 : Hid (wrap64 (wrap64 (10 * z) - ((s[j].toNat : Int) - 48)) = wrap64 (-((10 * q + (s[j].toNat - 48) : Nat) : Int))) := by
          show _ = _
          rw [hzq.out, step64, show ((10 * q + (s[j].toNat - 48) : Nat) : Int) = 10 * (q : Int) + ((s[j].toNat : Int) - 48) by omega]
        clear hq hzq
        go_wp2_with fail
        go_round
        case rel => exact ⟨j + 1, _, _, by omega, by omega, by go_num, rfl, Hz2.out, Hq2.out⟩
        case measure => simp [intOf]; omega
      · obtain rfl : j = k := by omega
        have HN : Hid (z = wrap64 (numZ 1 (mid (bs s) 1 j))) := by
          show _ = _
          rw [hzq.out, hq.out, numZ_one]
        have HB := wrap64_in (numZ 1 (mid (bs s) 1 j))
        rw [← HN.out] at HB
        obtain ⟨hB1, hB2⟩ := HB
        have HD := Lib.hid (fun w => (rdigits_any (z) w hB1 hB2).mono fun e w' ⟨h1, h2⟩ => (⟨h1, h2.symm⟩ : e = _ ∧ w' = w))
        have kI0 : (0 : Int) ≤ (j : Int) := by omega
        clear hzq hq hjk hj0 hB1 hB2
        cases hf : fits64 (numZ 1 (mid (bs s) 1 j))
        · have Hr := Lib.hid (Hv.out j _ _ _ hstop.out (num2_no Hnn.out Hz.out hf))
          have hc : ((⟨(dz (z)).toArray⟩ : ByteArray).toList == (s.extract 0 j).toList) = false := cmp_ne (fun e => by
            have h1 := congrArg bs e
            rw [bs_front, ← Htx.out, HN.out] at h1
            exact wrap64_ne hf (dz_inj h1))
          generalize (⟨(dz (z)).toArray⟩ : ByteArray) = X at HD hc
          clear Hv hstop hall
          go_wp2_with fail
          go_quiet (first | (go_at_call 49; refine Calls.quiet_of_same (HD.out _)))
          go_wp2
          go_ret3
          exact ⟨by rw [Hr.out]; rfl, ⟨_, rfl⟩⟩
        · have Hr := Lib.hid (Hv.out j _ _ _ hstop.out (num2_yes Hnn.out Hz.out hf))
          rw [Hlen.out, show 1 + (j - 1) = j by omega] at Hr
          have hX : (⟨(dz (z)).toArray⟩ : ByteArray) = s.extract 0 j := bs_eq (by
            rw [bs_front, ← Htx.out, HN.out, wrap64_id hf]
            exact bs_mk _)
          rw [hX] at HD
          clear hX
          have hc : ((s.extract 0 j).toList == (s.extract 0 j).toList) = true := by simp
          rw [← wrap64_id hf, ← HN.out] at Hr
          clear Hv hstop hall
          go_wp2_with fail
          go_quiet (first | (go_at_call 49; refine Calls.quiet_of_same (HD.out _)))
          go_wp2
          go_ret3
          exact ⟨by rw [Hr.out]; rfl, ⟨_, rfl⟩⟩
end Go.Proofs.YtebldfnocpcddaaGreatDoor

/-
  Contract of the document's own Number.
-/
namespace Go.Proofs.YtebldfnocpcddaaGreatDoor
open Go.RowKit

set_option maxRecDepth 100000 in
set_option maxHeartbeats 1600000 in
theorem rnumber_any (s : ByteArray) (w : World) (hs : s.size ≤ 1000000) : Calls Tryz.prog 107 #[.string s] w fun e w' => e = .returned (numV (bs s)) ∧ Drew w w' := by
  by_cases h0 : s.size = 0
  · obtain rfl := is_empty s h0
    have Hv : Hid (numV (bs ⟨#[]⟩) = .tuple #[.int .i64 0, .int .i64 0, .int .i64 5]) := rfl
    go_enter Tryz.func107, Tryz.ntmps107
    go_wp2_with fail
    go_rounds 1
    go_ret3
    exact ⟨by rw [Hv.out]; rfl, Drew.refl _⟩
  have h0' : 0 < s.size := by omega
  have A0 := bs_at s 0 h0'
  by_cases h : s[0].toNat = 45
  · exact rnumber_s1 s w hs h0' (by simp; omega) (sgAt_yes (by rw [A0, u8_is (by omega) h]; rfl))
  · refine rnumber_s0 s w hs h0' (by simp; omega) (sgAt_no ?_)
    rw [A0]
    intro e
    exact h (by rw [Option.some.inj e]; rfl)
end Go.Proofs.YtebldfnocpcddaaGreatDoor

/-
  Contract of the document's own unhex.
-/
namespace Go.Proofs.YtebldfnocpcddaaGreatDoor
open Go.RowKit

/-- how unhex ends -/
def UnhV (l : List UInt8) (w : World) (e : Ending) (w' : World) : Prop :=
  ∃ (U : ByteArray) (k : Nat), e = .returned (.tuple #[.string U, .int .i64 (k : Nat), .bool (uh l).2.2]) ∧ ((uh l).2.2 = true → bs U = (uh l).1 ∧ k = (uh l).2.1) ∧ Below w.heap.size w w'
theorem UnhV.yes {l : List UInt8} {U : ByteArray} {k : Nat} {w w' : World} (h : uh l = (bs U, k, true)) (hb : Below w.heap.size w w') : UnhV l w (.returned (.tuple #[.string U, .int .i64 (k : Nat), .bool true])) w' :=
  ⟨U, k, by rw [h], fun _ => by rw [h]; exact ⟨rfl, rfl⟩, hb⟩
theorem UnhV.no {l : List UInt8} {U : ByteArray} {k : Nat} {w w' : World} (h : uh l = ([], 0, false)) (hb : Below w.heap.size w w') : UnhV l w (.returned (.tuple #[.string U, .int .i64 (k : Nat), .bool false])) w' :=
  ⟨U, k, by rw [h], (fun e => by rw [h] at e; cases e), hb⟩
theorem pair_len (l : List UInt8) (p : Nat) (h : l.length < p + 2) (c : UInt8) : (l.drop p).take 2 ≠ hp c := fun e => by
  have := congrArg List.length e
  simp [hp] at this; omega
theorem u8_lt256 (P : UInt8 → Prop) (h : ∀ d, d < 256 → P (UInt8.ofNat d)) (c : UInt8) : P c := by
  have := h c.toNat c.toNat_lt
  simpa using this
/-- none of the first C bytes has its digits here -/
def NoHp (l : List UInt8) (p C : Nat) : Prop := ∀ d, d < C → (l.drop p).take 2 ≠ hp (UInt8.ofNat d)
theorem NoHp.more {l : List UInt8} {p C : Nat} (h : NoHp l p C) (h2 : (l.drop p).take 2 ≠ hp (UInt8.ofNat C)) : NoHp l p (C + 1) := fun d hd => by
  by_cases e : d = C
  · subst e; exact h2
  · exact h d (by omega)
theorem NoHp.all {l : List UInt8} {p : Nat} (h : NoHp l p 256) (c : UInt8) : (l.drop p).take 2 ≠ hp c := u8_lt256 (fun c => (l.drop p).take 2 ≠ hp c) h c
theorem two_front (s : ByteArray) (p : Nat) : bs (s.extract p (p + 2)) = ((bs s).drop p).take 2 := by
  rw [bs_extract, List.drop_take, Nat.add_sub_cancel_left]
theorem str_snoc {U : ByteArray} {c : UInt8} : bs (U ++ ⟨#[c]⟩) = bs U ++ [c] := by rw [bs_append]; rfl

set_option maxRecDepth 100000 in
set_option maxHeartbeats 3200000 in
theorem runhex_any (s : ByteArray) (w : World) (hs : s.size ≤ 1000000) : Calls Tryz.prog 110 #[.string s] w fun e w' => UnhV (bs s) w e w' := by
  go_enter Tryz.func110, Tryz.ntmps110
  go_wp2_with fail
  go_loopw [5, 6] (fun o p wr => ∃ (P : Nat) (U : ByteArray), P ≤ s.size ∧ o = .string U ∧ p = .int .i64 P ∧ Hid (Unh (bs s) (bs U) P) ∧ Below w.heap.size w wr) (fun _ p _ => s.size - (intOf p).toNat)
  case atStart => exact ⟨0, ⟨#[]⟩, by omega, rfl, rfl, Unh.start _, Below.refl _ _⟩
  case round =>
    obtain ⟨P, U, hP, rfl, rfl, hU, hb⟩ := hrel
    by_cases hlt : P < s.size
    · have HA := Lib.hid (bs_at s P hlt)
      by_cases hq : s[P].toNat = 34
      · have d1 : ((s[P].toNat : Int) != 34) = false := by simp; omega
        have Hr := Lib.hid (hU.out.stop (by rw [HA.out, UInt8.toNat_inj.1 (show s[P].toNat = (34 : UInt8).toNat from hq)]))
        go_wp2_with fail
        go_ret3
        exact UnhV.yes Hr.out hb
      · have d1 : ((s[P].toNat : Int) != 34) = true := by simp; omega
        have Hnq : Hid ((bs s)[P]? ≠ some 34) := fun e => hq (by rw [HA.out] at e; rw [Option.some.inj e]; rfl)
        have hUl : U.size ≤ P := by
          have h1 := hU.out.1
          rw [hxs_len, bs_length] at h1; omega
        have hsz := hb.size
        clear hq
        go_wp2_with fail
        go_loopw [5, 6, 7, 8] (fun o p f c wi => ∃ (C : Nat), C ≤ 256 ∧ c = .int .i64 C ∧ Below w.heap.size w wi ∧ ((f = .bool false ∧ o = .string U ∧ p = .int .i64 P ∧ Hid (NoHp (bs s) P C)) ∨ (∃ V, f = .bool true ∧ o = .string V ∧ p = .int .i64 ((P + 2 : Nat) : Int) ∧ P + 2 ≤ s.size ∧ Hid (Unh (bs s) (bs V) (P + 2))))) (fun _ _ _ c _ => 256 - (intOf c).toNat)
        case atStart => exact ⟨0, by omega, rfl, hb, .inl ⟨rfl, rfl, rfl, fun d hd => absurd hd (by omega)⟩⟩
        case round =>
          obtain ⟨C, hC, rfl, hb2, ⟨rfl, rfl, rfl, hno⟩ | ⟨V, rfl, rfl, rfl, hP2, hV⟩⟩ := hrel
          · have hs2 := hb2.size
            by_cases hC2 : C < 256
            · have hcv := fun w' => run_string_one w' wr.heap.size 1 (C : Int) (UInt8.ofNat C) (by simp; omega)
              by_cases hP2 : P + 2 ≤ s.size
              · have dP : decide ((P : Int) + 2 ≤ (s.size : Int)) = true := by simp; omega
                have i1 : (P : Int) + 2 ≤ (s.size : Int) := by omega
                have i2 : (0 : Int) ≤ (P : Int) := by omega
                have i3 : (P : Int) ≤ (P : Int) + 2 := by omega
                have HX := Lib.hid (fun w => rhex_any ⟨#[UInt8.ofNat C]⟩ w (by show 1 ≤ _; omega))
                by_cases heq : ((bs s).drop P).take 2 = hp (UInt8.ofNat C)
                · have hXe : (⟨(hxs (bs ⟨#[UInt8.ofNat C]⟩)).toArray⟩ : ByteArray) = s.extract P (P + 2) := bs_eq (by
                    rw [two_front, heq]
                    exact bs_mk _)
                  rw [hXe] at HX
                  clear hXe
                  have HM := Lib.hid (hU.out.more heq)
                  rw [← str_snoc (U := U)] at HM
                  have hadd := fun w' => run_string_add_sum (P := Tryz.prog) (w := w') U ⟨#[UInt8.ofNat C]⟩ (by show U.size + 1 ≤ _; omega)
                  have dc : ((s.extract P (P + 2)).toList == (s.extract P (P + 2)).toList) = true := by simp
                  clear heq
                  go_wp2_with fail
                  go_quiet (first | (go_at_call 51; refine Calls.quiet_of (HX.out _)))
                  go_wp2_with fail
                  go_roundw
                  case rel => exact ⟨C + 1, by omega, by go_num, below_drewN (hb2.alloc hs2 _) _, .inr ⟨_, rfl, rfl, by go_num, hP2, HM.out⟩⟩
                  case measure => simp [intOf]; omega
                · have dc : ((s.extract P (P + 2)).toList == (⟨(hxs (bs ⟨#[UInt8.ofNat C]⟩)).toArray⟩ : ByteArray).toList) = false := cmp_ne (fun e => heq (by
                    rw [← two_front, e]
                    exact bs_mk _))
                  have HM := Lib.hid (hno.out.more heq)
                  generalize (⟨(hxs (bs ⟨#[UInt8.ofNat C]⟩)).toArray⟩ : ByteArray) = X at HX dc
                  clear heq
                  go_wp2_with fail
                  go_quiet (first | (go_at_call 51; refine Calls.quiet_of (HX.out _)))
                  go_wp2_with fail
                  go_roundw
                  case rel => exact ⟨C + 1, by omega, by go_num, below_drewN (hb2.alloc hs2 _) _, .inl ⟨rfl, rfl, rfl, HM.out⟩⟩
                  case measure => simp [intOf]; omega
              · have dP : decide ((P : Int) + 2 ≤ (s.size : Int)) = false := by simp; omega
                have HM := Lib.hid (hno.out.more (pair_len (bs s) P (by rw [bs_length]; omega) _))
                go_wp2_with fail
                go_quiet (fail)
                go_wp2
                go_roundw
                case rel => exact ⟨C + 1, by omega, by go_num, below_drewN (hb2.alloc hs2 _) _, .inl ⟨rfl, rfl, rfl, HM.out⟩⟩
                case measure => simp [intOf]; omega
            · obtain rfl : C = 256 := by omega
              have Hr := Lib.hid (hU.out.none hno.out.all Hnq.out)
              go_wp2_with fail
              go_ret3
              exact UnhV.no Hr.out hb2
          · by_cases hC2 : C < 256
            all_goals
              go_wp2_with fail
              go_roundw
              case rel => exact ⟨P + 2, V, hP2, rfl, by go_num, hV, hb2⟩
              case measure => simp [intOf]; omega
    · obtain rfl : P = s.size := by omega
      have Hr : Hid (uh (bs s) = ([], 0, false)) := hU.out.none (pair_len _ _ (by rw [bs_length]; omega)) (by rw [List.getElem?_eq_none (by rw [bs_length]; omega)]; simp)
      go_wp2_with fail
      go_ret3
      exact UnhV.no Hr.out hb
end Go.Proofs.YtebldfnocpcddaaGreatDoor
