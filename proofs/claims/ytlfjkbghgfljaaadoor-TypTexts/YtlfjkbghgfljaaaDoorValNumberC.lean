/-
  Contract of package value's Number.
-/
import Derived.Test.YtlfjkbghgfljaaaDoorValNumC
namespace Go.Proofs.YtlfjkbghgfljaaaDoor
open Go.RowKit

def numV (l : List UInt8) : Value := .tuple #[.int .i64 (numW l).1, .int .i64 ((numW l).2.1 : Nat), .int .i64 ((numW l).2.2 : Nat)]
theorem numV_eq {l : List UInt8} {st : Nat} {ds : List UInt8} {z : Int} {k e : Nat} (h1 : sgAt l = st) (h2 : ldD (l.drop st) = ds) (h : num2 st ds = (z, k, e)) : numV l = .tuple #[.int .i64 z, .int .i64 (k : Nat), .int .i64 (e : Nat)] := by
  unfold numV numW
  rw [h1, h2, h]
theorem num2_nil (st : Nat) : num2 st [] = (0, 0, 5) := rfl
theorem num2_zero {st : Nat} {ds : List UInt8} (h0 : ds[0]? = some 48) (h : st = 1 ∨ 1 < ds.length) : num2 st ds = (0, 0, 5) := by
  unfold num2
  rw [if_neg (by intro e; subst e; simp at h0), if_pos ⟨h0, h⟩]
theorem num2_yes {st : Nat} {ds : List UInt8} (hn : ds ≠ []) (h0 : ¬ (ds[0]? = some 48 ∧ (st = 1 ∨ 1 < ds.length))) (hf : fits64 (numZ st ds) = true) : num2 st ds = (numZ st ds, st + ds.length, 0) := by
  unfold num2
  rw [if_neg hn, if_neg h0, if_pos ((fits64_iff _).1 hf)]
theorem num2_no {st : Nat} {ds : List UInt8} (hn : ds ≠ []) (h0 : ¬ (ds[0]? = some 48 ∧ (st = 1 ∨ 1 < ds.length))) (hf : fits64 (numZ st ds) = false) : num2 st ds = (0, 0, 10) := by
  unfold num2
  rw [if_neg hn, if_neg h0, if_neg (by rw [← fits64_iff, hf]; simp)]
theorem sgAt_no {l : List UInt8} (h : l[0]? ≠ some 45) : sgAt l = 0 := if_neg h
theorem sgAt_yes {l : List UInt8} (h : l[0]? = some 45) : sgAt l = 1 := if_pos h
theorem u8_is {c : UInt8} {d : Nat} (hd : d < 256) (h : c.toNat = d) : c = UInt8.ofNat d := UInt8.toNat_inj.1 (by rw [h, UInt8.toNat_ofNat']; exact (Nat.mod_eq_of_lt hd).symm)

theorem st_cast (neg : Bool) (n : Nat) : ((stN neg + n : Nat) : Int) = bif neg then 1 + (n : Int) else (n : Int) := by
  cases neg
  · show ((0 + n : Nat) : Int) = n; omega
  · show ((1 + n : Nat) : Int) = 1 + n; omega

set_option maxRecDepth 100000 in
set_option maxHeartbeats 1600000 in
theorem number_any (s : ByteArray) (w : World) (hs : s.size ≤ 1000000) : Calls Tryd.prog 50 #[.string s] w fun e w' => e = .returned (numV (bs s)) ∧ w = w' := by
  by_cases h0 : s.size = 0
  · obtain rfl := is_empty s h0
    have H1 := Lib.hid (fun w => leading_any ⟨#[]⟩ w (by decide))
    have Hv : Hid (numV (bs ⟨#[]⟩) = .tuple #[.int .i64 0, .int .i64 0, .int .i64 5]) := rfl
    go_enter Tryd.func50, Tryd.ntmps50
    go_wp2_with fail
    refine (H1.out _).mono ?_
    rintro e w1 ⟨rfl, rfl⟩
    rw [show (⟨(ldD (bs ⟨#[]⟩)).toArray⟩ : ByteArray) = ⟨#[]⟩ from rfl]
    go_wp2_with fail
    go_ret3
    exact ⟨by rw [Hv.out]; rfl, rfl⟩
  have hne := ne_empty s (by omega)
  have h0' : 0 < s.size := by omega
  have A0 := Lib.hid (bs_at s 0 h0')
  -- the sign
  obtain ⟨neg, hneg, Hst, hx⟩ : ∃ neg, ((s[0].toNat : Int) == 45) = neg ∧ Hid (sgAt (bs s) = stN neg) ∧ True := by
    by_cases h : s[0].toNat = 45
    · exact ⟨true, by simp; omega, sgAt_yes (by rw [A0.out, u8_is (by omega) h]; rfl), trivial⟩
    · refine ⟨false, by simp; omega, sgAt_no ?_, trivial⟩
      rw [A0.out]
      intro e
      exact h (by rw [Option.some.inj e]; rfl)
  obtain ⟨D, hD⟩ : ∃ D : ByteArray, D = ⟨(ldD ((bs s).drop (stN neg))).toArray⟩ := ⟨_, rfl⟩
  have HD : Hid (bs D = ldD ((bs s).drop (stN neg))) := by show _ = _; rw [hD]; rfl
  have H1 : Hid (∀ w, Calls Tryd.prog 60 #[.string (bif neg then s.extract 1 s.size else s)] w fun e w' => e = .returned (.string D) ∧ w = w') := fun w => by
    subst hD
    cases neg
    · exact leading_any s w hs
    · have := leading_any (s.extract 1 s.size) w (by simp; omega)
      rw [bs_rest] at this
      exact this
  have hDl : D.size ≤ s.size - stN neg := by
    have h1 := ldD_len ((bs s).drop (stN neg))
    rw [← HD.out, List.length_drop, bs_length, bs_length] at h1; exact h1
  clear hD hx
  have Hall : Hid (AllD (bs D)) := by show AllD _; rw [HD.out]; exact ldD_all _
  have Hv : Hid (∀ z k e, num2 (stN neg) (bs D) = (z, k, e) → numV (bs s) = .tuple #[.int .i64 z, .int .i64 (k : Nat), .int .i64 (e : Nat)]) := fun z k e h => numV_eq Hst.out HD.out.symm h
  clear HD Hst
  by_cases hd0 : D.size = 0
  · obtain rfl := is_empty D hd0
    have Hr := Lib.hid (Hv.out _ _ _ (num2_nil _))
    clear Hv
    cases neg
    all_goals
      go_enter Tryd.func50, Tryd.ntmps50
      go_wp2_with fail
      refine (H1.out _).mono ?_
      rintro e w1 ⟨rfl, rfl⟩
      go_wp2_with fail
      go_ret3
      exact ⟨by rw [Hr.out]; rfl, rfl⟩
  have hDne := ne_empty D (by omega)
  have hd0' : 0 < D.size := by omega
  have B0 := Lib.hid (bs_at D 0 hd0')
  have Hn0 : Hid (bs D ≠ []) := fun e => by have := bs_length D; rw [e] at this; simp at this; omega
  by_cases hz : D[0].toNat = 48 ∧ (neg = true ∨ 1 < D.size)
  · obtain ⟨hz1, hz2⟩ := hz
    have d1 : ((D[0].toNat : Int) == 48) = true := by simp; omega
    have Hr := Lib.hid (Hv.out _ _ _ (num2_zero (by rw [B0.out, u8_is (by omega) hz1]; rfl) (by
      rcases hz2 with h | h
      · subst h; exact .inl rfl
      · exact .inr (by rw [bs_length]; exact h))))
    clear Hv hz1
    cases neg
    · have d2 : decide (1 < (D.size : Int)) = true := by
        rcases hz2 with h | h
        · cases h
        · simp; omega
      go_enter Tryd.func50, Tryd.ntmps50
      go_wp2_with fail
      refine (H1.out _).mono ?_
      rintro e w1 ⟨rfl, rfl⟩
      go_wp2_with fail
      go_ret3
      exact ⟨by rw [Hr.out]; rfl, rfl⟩
    · go_enter Tryd.func50, Tryd.ntmps50
      go_wp2_with fail
      refine (H1.out _).mono ?_
      rintro e w1 ⟨rfl, rfl⟩
      go_wp2_with fail
      go_ret3
      exact ⟨by rw [Hr.out]; rfl, rfl⟩
  have Hz : Hid (¬ ((bs D)[0]? = some 48 ∧ (stN neg = 1 ∨ 1 < (bs D).length))) := by
    rintro ⟨e1, e2⟩
    rw [B0.out] at e1
    refine hz ⟨by rw [Option.some.inj e1]; rfl, ?_⟩
    rcases e2 with e2 | e2
    · cases neg
      · cases e2
      · exact .inl rfl
    · rw [bs_length] at e2; exact .inr e2
  have HC := Lib.hid (fun w => compose_any D neg w (can_of Hn0.out Hall.out Hz.out) (by omega))
  have dd : ((D[0].toNat : Int) == 48) = false ∨ (((D[0].toNat : Int) == 48) = true ∧ neg = false ∧ decide (1 < (D.size : Int)) = false) := by
    by_cases h1 : D[0].toNat = 48
    · refine .inr ⟨by simp; omega, ?_, ?_⟩
      · cases neg
        · rfl
        · exact absurd ⟨h1, .inl rfl⟩ hz
      · by_cases h2 : 1 < D.size
        · exact absurd ⟨h1, .inr h2⟩ hz
        · simp; omega
    · exact .inl (by simp; omega)
  clear hz
  rcases dd with dd | ⟨dd, rfl, dd2⟩
  · cases neg
    all_goals
      go_enter Tryd.func50, Tryd.ntmps50
      go_wp2_with fail
      refine (H1.out _).mono ?_
      rintro e w1 ⟨rfl, rfl⟩
      go_wp2_with fail
      refine (HC.out _).mono ?_
      rintro e w1 ⟨z, rfl, hzz, rfl⟩
      have Hzz := Lib.hid hzz; clear hzz
      cases hf : fits64 (numZ (stN _) (bs D))
      · have Hr := Lib.hid (Hv.out _ _ _ (num2_no Hn0.out Hz.out hf))
        clear Hv Hzz
        go_wp2_with fail
        go_ret3
        exact ⟨by rw [Hr.out]; rfl, rfl⟩
      · have Hr := Lib.hid (Hv.out _ _ _ (num2_yes Hn0.out Hz.out hf))
        have e1 := Hzz.out hf
        subst e1
        rw [bs_length, st_cast] at Hr
        clear Hv Hzz
        go_wp2_with fail
        go_ret3
        exact ⟨by rw [Hr.out]; rfl, rfl⟩
  · go_enter Tryd.func50, Tryd.ntmps50
    go_wp2_with fail
    refine (H1.out _).mono ?_
    rintro e w1 ⟨rfl, rfl⟩
    go_wp2_with fail
    refine (HC.out _).mono ?_
    rintro e w1 ⟨z, rfl, hzz, rfl⟩
    have Hzz := Lib.hid hzz; clear hzz
    cases hf : fits64 (numZ (stN false) (bs D))
    · have Hr := Lib.hid (Hv.out _ _ _ (num2_no Hn0.out Hz.out hf))
      clear Hv Hzz
      go_wp2_with fail
      go_ret3
      exact ⟨by rw [Hr.out]; rfl, rfl⟩
    · have Hr := Lib.hid (Hv.out _ _ _ (num2_yes Hn0.out Hz.out hf))
      have e1 := Hzz.out hf
      subst e1
      rw [bs_length, st_cast] at Hr
      clear Hv Hzz
      go_wp2_with fail
      go_ret3
      exact ⟨by rw [Hr.out]; rfl, rfl⟩
end Go.Proofs.YtlfjkbghgfljaaaDoor
