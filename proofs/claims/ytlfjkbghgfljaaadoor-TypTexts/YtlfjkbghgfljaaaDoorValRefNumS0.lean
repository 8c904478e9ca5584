/-
  Contract of the document's own Number at a string with no sign.
-/
import Derived.Test.YtlfjkbghgfljaaaDoorValRefNumM
import Derived.Deep.CutBlock
import Derived.Deep.DeepCutAuto
namespace Go.Proofs.YtlfjkbghgfljaaaDoor
open Go.RowKit

set_option maxRecDepth 100000 in
set_option maxHeartbeats 3200000 in
theorem rnumber_s0 (s : ByteArray) (w : World) (hs : s.size ≤ 1000000) (h0' : 0 < s.size) (hneg : ((s[0].toNat : Int) == 45) = false) (Hst : Hid (sgAt (bs s) = 0)) :
    Calls Tryd.prog 40 #[.string s] w fun e w' => e = .returned (numV (bs s)) ∧ Drew w w' := by
  have hne := ne_empty s h0'
  have Hv : Hid (∀ k z m e, ldD ((bs s).drop 0) = mid (bs s) 0 k → num2 0 (mid (bs s) 0 k) = (z, m, e) → numV (bs s) = .tuple #[.int .i64 z, .int .i64 (m : Nat), .int .i64 (e : Nat)]) := fun k z m e h1 h2 => numV_eq Hst.out h1 h2
  go_enter Tryd.func40, Tryd.ntmps40
  go_upto_block 0 with fail
  go_cut [6] (fun s6 wx => w = wx ∧ ∃ k : Nat, 0 ≤ k ∧ k ≤ s.size ∧ s6 = .int .i64 k ∧ Hid (AllD (mid (bs s) 0 k)) ∧ Hid (ldD ((bs s).drop 0) = mid (bs s) 0 k))
  case first =>
    go_wp2_with fail
    go_loop [6] (fun i => ∃ k : Nat, 0 ≤ k ∧ k ≤ s.size ∧ i = .int .i64 k ∧ Hid (AllD (mid (bs s) 0 k))) (fun i => s.size - (intOf i).toNat)
    case atStart => exact ⟨0, by omega, by omega, rfl, by show AllD _; rw [mid_nil]; exact fun x hx => by cases hx⟩
    case round =>
      obtain ⟨k, hk1, hk, rfl, hall⟩ := hrel
      by_cases hgo : ∃ h : k < s.size, isD s[k] = true
      · obtain ⟨hlt, hd⟩ := hgo
        have Hn := Lib.hid (hall.out.more hd)
        rw [← mid_more hk1 (bs_at s k hlt)] at Hn
        have hd2 := (isD_iff _).1 hd
        have d1 : decide ((48 : Int) ≤ (s[k].toNat : Int)) = true := by simp; omega
        have d2 : decide ((s[k].toNat : Int) ≤ 57) = true := by simp; omega
        clear hd hd2
        go_wp2_with fail
        go_round
        case rel => exact ⟨k + 1, by omega, by omega, by go_num, Hn.out⟩
        case measure => simp [intOf]; omega
      · have hstop : Hid (ldD ((bs s).drop 0) = mid (bs s) 0 k) := mid_stop hk1 (by rw [bs_length]; exact hk) hall.out (fun c hc => by
          cases hD : isD c
          · rfl
          · obtain ⟨h1, h2⟩ := List.getElem?_eq_some_iff.1 hc
            rw [bs_length] at h1
            refine absurd ⟨h1, ?_⟩ hgo
            have h3 := bs_at s k h1
            rw [hc] at h3
            rw [← Option.some.inj h3]; exact hD)
        have hway : decide (k < s.size) = false ∨ ∃ h : k < s.size, decide ((48 : Int) ≤ (s[k].toNat : Int)) = false ∨ (decide ((48 : Int) ≤ (s[k].toNat : Int)) = true ∧ decide ((s[k].toNat : Int) ≤ 57) = false) := by
          by_cases h : k < s.size
          · refine .inr ⟨h, ?_⟩
            by_cases h2 : 48 ≤ s[k].toNat
            · refine .inr ⟨by simp; omega, ?_⟩
              by_cases h3 : s[k].toNat ≤ 57
              · exact absurd ⟨h, (isD_iff _).2 ⟨h2, h3⟩⟩ hgo
              · simp; omega
            · exact .inl (by simp; omega)
          · exact .inl (by simpa using h)
        clear hgo
        rcases hway with hw1 | ⟨hlt, hw1 | ⟨hw1, hw2⟩⟩
        all_goals
          go_wp2_with fail
          go_meet
          exact ⟨rfl, k, hk1, hk, rfl, hall, hstop⟩
  case rest =>
    obtain ⟨rfl, k, hk1, hk, rfl, hall, hstop⟩ := hcut
    have kI : (k : Int) ≤ (s.size : Int) := by omega
    by_cases hk0 : k = 0
    · subst hk0
      have Hr := Lib.hid (Hv.out 0 _ _ _ hstop.out ((congrArg (num2 0) (mid_nil _ _)).trans (num2_nil _)))
      clear Hv hstop hall
      go_wp2_with fail
      go_ret3
      exact ⟨by rw [Hr.out]; rfl, Drew.refl _⟩
    have hka : 0 < k := by omega
    have dk : ((k : Int) == 0) = false := by simp; omega
    have hal : 0 < s.size := by omega
    have A1 := Lib.hid (bs_at s 0 hal)
    have Hm0 := Lib.hid (mid_at (l := bs s) hka)
    have Hlen := Lib.hid (mid_len (st := 0) (l := bs s) (k := k) (by rw [bs_length]; exact hk))
    have Hnn := Lib.hid (mid_ne (l := bs s) (st := 0) (k := k) (by rw [bs_length]; exact hk) hka)
    by_cases hz : s[0].toNat = 48 ∧ 1 < k
    · have Hr := Lib.hid (Hv.out k _ _ _ hstop.out (num2_zero (Hm0.out.trans (some48 A1.out hz.1)) (.inr (by rw [Hlen.out]; omega))))
      clear Hv hstop hall
      have d48 : ((s[0].toNat : Int) == 48) = true := by simp; omega
      have d1k : decide (1 < (k : Int)) = true := by simp; omega
      go_wp2_with fail
      all_goals
        go_ret3
        exact ⟨by rw [Hr.out]; rfl, Drew.refl _⟩
    have Hz : Hid (NoZ 0 (mid (bs s) 0 k)) := fun ⟨e1, e2⟩ => by
      have e3 : s[0].toNat = 48 := Classical.byContradiction fun h => no48 A1.out h (Hm0.out.symm.trans e1)
      rw [Hlen.out] at e2
      omega
    have dz1 : ((s[0].toNat : Int) == 48) = false ∨ (((s[0].toNat : Int) == 48) = true ∧ decide (1 < (k : Int)) = false) := by
      by_cases h : s[0].toNat = 48
      · exact .inr ⟨by simp; omega, by simp; omega⟩
      · exact .inl (by simp; omega)
    clear hz
    by_cases h19 : 19 < k - 0
    · have Hr := Lib.hid (Hv.out k _ _ _ hstop.out (num2_no Hnn.out Hz.out (long_no (can_of Hnn.out hall.out Hz.out) (by rw [Hlen.out]; exact h19) _)))
      have d19 : decide (19 < ((k : Int))) = true := by simp; omega
      clear Hv hstop hall
      rcases dz1 with dz1 | ⟨dz1, dz2⟩
      all_goals
        go_wp2_with fail
        go_ret3
        exact ⟨by rw [Hr.out]; rfl, Drew.refl _⟩
    have d19 : decide (19 < ((k : Int))) = false := by simp; omega
    have Htx := Lib.hid (mid_text (by omega) Hst.out hstop.out hk1 (by rw [bs_length]; exact hk) Hnn.out Hz.out)
    rcases dz1 with dz1 | ⟨dz1, dz2⟩
    all_goals
      go_wp2_with fail
      go_loop [7, 8] (fun n i => ∃ (j q : Nat) (z : Int), 0 ≤ j ∧ j ≤ k ∧ i = .int .i64 j ∧ n = .int .i64 z ∧ Hid (z = wrap64 (-(q : Int))) ∧ Hid (q = dv (mid (bs s) 0 j))) (fun _ i => k - (intOf i).toNat)
      case atStart => exact ⟨0, 0, 0, by omega, by omega, rfl, rfl, by show _ = _; go_arith, by show _ = _; rw [mid_nil]; rfl⟩
      case round =>
        obtain ⟨j, q, z, hj0, hj, rfl, rfl, hzq, hq⟩ := hrel
        by_cases hjk : j < k
        · have hjs : j < s.size := by omega
          have hdj := (isD_iff _).1 (mid_dig hall.out hj0 hjk (bs_at s j hjs))
          obtain ⟨hd1, hd2⟩ := hdj
          have Hq2 : Hid (10 * q + (s[j].toNat - 48) = dv (mid (bs s) 0 (j + 1))) := by
            show _ = _
            rw [mid_more hj0 (bs_at s j hjs), dv_snoc, hq.out]
          have Hz2 : Hid (wrap64 (wrap64 (10 * z) - ((s[j].toNat : Int) - 48)) = wrap64 (-((10 * q + (s[j].toNat - 48) : Nat) : Int))) := by
            show _ = _
            rw [hzq.out, step64, show ((10 * q + (s[j].toNat - 48) : Nat) : Int) = 10 * (q : Int) + ((s[j].toNat : Int) - 48) by omega]
          clear hq hzq
          go_wp2_with fail
          go_round
          case rel => exact ⟨j + 1, _, _, by omega, by omega, by go_num, rfl, Hz2.out, Hq2.out⟩
          case measure => simp [intOf]; omega
        · obtain rfl : j = k := by omega
          have HN : Hid (wrap64 (-z) = wrap64 (numZ 0 (mid (bs s) 0 j))) := by
            show _ = _
            rw [hzq.out, hq.out, neg64, numZ_zero]
          have kI0 : (0 : Int) ≤ (j : Int) := by omega
          clear hzq hq hjk hj0
          go_wp2_with fail
          generalize wrap64 (-z) = N at HN ⊢
          have HB := wrap64_in (numZ 0 (mid (bs s) 0 j))
          rw [← HN.out] at HB
          obtain ⟨hB1, hB2⟩ := HB
          have HD := Lib.hid (fun w => (rdigits_any N w hB1 hB2).mono fun e w' ⟨h1, h2⟩ => (⟨h1, h2.symm⟩ : e = _ ∧ w' = w))
          clear hB1 hB2
          cases hf : fits64 (numZ 0 (mid (bs s) 0 j))
          · have Hr := Lib.hid (Hv.out j _ _ _ hstop.out (num2_no Hnn.out Hz.out hf))
            have hc : ((⟨(dz N).toArray⟩ : ByteArray).toList == (s.extract 0 j).toList) = false := cmp_ne (fun e => by
              have h1 := congrArg bs e
              rw [bs_mk (dz N), bs_front, ← Htx.out, HN.out] at h1
              exact wrap64_ne hf (dz_inj h1))
            generalize (⟨(dz N).toArray⟩ : ByteArray) = X at HD hc
            clear Hv hstop hall
            go_quiet (first | (go_at_call 35; refine Calls.quiet_of_same (HD.out _)))
            go_wp2
            go_ret3
            exact ⟨by rw [Hr.out]; rfl, ⟨_, rfl⟩⟩
          · have Hr := Lib.hid (Hv.out j _ _ _ hstop.out (num2_yes Hnn.out Hz.out hf))
            rw [Hlen.out, show 0 + (j - 0) = j by omega] at Hr
            have hX : (⟨(dz N).toArray⟩ : ByteArray) = s.extract 0 j := bs_eq (by
              rw [bs_front, ← Htx.out, HN.out, wrap64_id hf]
              exact bs_mk _)
            rw [hX] at HD
            clear hX
            have hc : ((s.extract 0 j).toList == (s.extract 0 j).toList) = true := by simp
            rw [← wrap64_id hf, ← HN.out] at Hr
            clear Hv hstop hall
            go_quiet (first | (go_at_call 35; refine Calls.quiet_of_same (HD.out _)))
            go_wp2
            go_ret3
            exact ⟨by rw [Hr.out]; rfl, ⟨_, rfl⟩⟩
end Go.Proofs.YtlfjkbghgfljaaaDoor
