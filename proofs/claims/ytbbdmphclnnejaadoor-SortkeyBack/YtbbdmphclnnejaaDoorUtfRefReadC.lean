/-
  Contract of the document's own Read.
-/
import Derived.Test.YtbbdmphclnnejaaDoorUtfReadC
import Derived.Test.YtbbdmphclnnejaaDoorUtfRefC
import Derived.BigQuiet
import Derived.Deep.QuietTactic
import Derived.WalkSmall
namespace Go.Proofs.YtbbdmphclnnejaaDoor
open Go.RowKit

/-- the number that the document's reader tries for a size -/
def cand (k : Nat) (a : UInt8) (t : List UInt8) : Int := cnd ((a.toNat : Int) - (mark k : Nat)) (t.take (k - 1))
theorem cand_rd {a : UInt8} {t : List UInt8} {n k : Nat} (h : rd (a :: t) = some (n, k)) : cand k a t = n := by
  obtain ⟨a', t', e, h1, h2, _, h4, h5, _, _⟩ := rd_parts h
  cases e
  have hm := mark_sz a.toNat (by omega)
  rw [h1] at hm
  rw [cand, show (a.toNat : Int) - (mark k : Nat) = ((a.toNat - mark k : Nat) : Int) by omega, cnd_fld _ _ h4, h5]
theorem cnd_snoc (n : Int) (l : List UInt8) (b : UInt8) : cnd n (l ++ [b]) = cnd n l * 64 + (b.toNat : Int) - 128 := by simp [cnd]
/-- the test fits -/
theorem cand_yes {a : UInt8} {t : List UInt8} {n k : Nat} (hp : isP n = true) (h : enc n = (a :: t).take k) (hk : k ≤ t.length + 1) : rdV (a :: t) = (n, k, true) := by
  have h1 := rd_of_take hp h
  have h2 : k = esz n := by rw [← enc_length, h, List.length_take, List.length_cons]; omega
  rw [rdV_some h1, h2]
theorem cand_no {a : UInt8} {t : List UInt8} {k : Nat} (h : ∀ n : Nat, cand k a t = n → isP n = true → enc n ≠ (a :: t).take k) (n : Nat) : rd (a :: t) ≠ some (n, k) := fun e => by
  obtain ⟨h1, _, h3, _⟩ := rd_some e
  exact h n (cand_rd e) h1 h3
theorem none_of {l : List UInt8} {k : Nat} (h : ∀ n j, rd l = some (n, j) → k ≤ j) (hk : 4 < k ∨ l.length < k) : rd l = none := by
  cases hr : rd l with
  | none => rfl
  | some p =>
    obtain ⟨n, j⟩ := p
    have h1 := h n j hr
    have h2 := rd_pos hr
    omega

theorem ris_no (z : Int) (h : isP z = false) (w : World) : Calls Tryd.prog 50 #[.int .i64 z] w fun e w' => e = .returned (.bool false) ∧ w' = w := by
  have := ris_any z w
  rw [h] at this
  exact this.mono fun _ _ ⟨h1, h2⟩ => ⟨h1, h2.symm⟩

set_option maxRecDepth 100000 in
set_option maxHeartbeats 1600000 in
theorem rread_any (s : ByteArray) (w : World) (hs : s.size ≤ 9223372036854775807) :
    Calls Tryd.prog 48 #[.string s] w fun e w' => e = .returned (.tuple #[.int .i64 ((rdV (bs s)).1 : Nat), .int .i64 ((rdV (bs s)).2.1 : Nat), .bool (rdV (bs s)).2.2]) ∧ Below w.heap.size w w' := by
  generalize hv : rdV (bs s) = v
  have Hv := Lib.hid hv; clear hv
  go_enter Tryd.func48, Tryd.ntmps48
  go_wp2_with fail
  go_loopw [5] (fun i wr => ∃ k : Nat, 1 ≤ k ∧ k ≤ 5 ∧ i = .int .i64 k ∧ Hid (∀ n j, rd (bs s) = some (n, j) → k ≤ j) ∧ Below w.heap.size w wr) (fun i _ => 5 - (intOf i).toNat)
  case atStart => exact ⟨1, by omega, by omega, rfl, fun n j h => (rd_pos h).1, Below.refl _ _⟩
  case round =>
    obtain ⟨k, hk1, hk5, rfl, hno, hb⟩ := hrel
    by_cases hend : 4 < k ∨ s.size < k
    · have hv : v = (0, 0, false) := by rw [← Hv.out]; exact rdV_none (none_of hno.out (by rw [bs_length]; exact hend))
      subst hv
      by_cases h4 : 4 < k
      · have d1 : decide ((k : Int) ≤ 4) = false := by simp; omega
        go_wp2
        go_ret3
        exact ⟨rfl, hb⟩
      · have d1 : decide ((k : Int) ≤ 4) = true := by simp; omega
        have d2 : decide ((k : Int) ≤ (s.size : Int)) = false := by simp; omega
        go_wp2
        go_ret3
        exact ⟨rfl, hb⟩
    · obtain ⟨t, ht0, htl, hta⟩ := bs_cons s (by omega)
      have Hta := Lib.hid hta; clear hta
      have Ht0 := Lib.hid ht0; clear ht0
      have hb0 : s[0].toNat < 256 := s[0].toNat_lt
      have d1 : decide ((k : Int) ≤ 4) = true := by simp; omega
      have d2 : decide ((k : Int) ≤ (s.size : Int)) = true := by simp; omega
      have d3 : decide (k ≤ s.size) = true := by simp; omega
      obtain ⟨K, hK⟩ : ∃ K, K = k := ⟨k, rfl⟩
      rcases (show k = 1 ∨ k = 2 ∨ k = 3 ∨ k = 4 by omega) with rfl | rfl | rfl | rfl
      all_goals
        have HK := Lib.hid hK; clear hK
        have Hm : Hid (((mark K : Nat) : Int) = (mark K : Nat)) := rfl
        rw [HK.out] at Hm
        go_wp2_with fail
        go_loop [6, 7] (fun x i => ∃ (j : Nat) (z : Int), j + 1 ≤ K ∧ i = .int .i64 (j + 1 : Nat) ∧ x = .int .i64 z ∧ 4 - 300 * 64 ^ j ≤ z ∧ z ≤ 300 * 64 ^ j - 4 ∧ Hid (z = cnd ((s[0].toNat : Int) - (mark K : Nat)) (t.take j))) (fun _ i => 4 - (intOf i).toNat)
        case atStart => exact ⟨0, _, by rw [HK.out]; omega, rfl, rfl, by omega, by omega, by rw [HK.out]; rfl⟩
        case round =>
          obtain ⟨j, z, hj, rfl, rfl, hz1, hz2, hF⟩ := hrel
          have hp : (64 : Int) ^ j ≤ 64 ^ 3 := by
            have := Nat.pow_le_pow_right (n := 64) (by omega) (show j ≤ 3 by have := HK.out; omega)
            exact_mod_cast this
          have hz3 : -78643200 ≤ z := by omega
          have hz4 : z ≤ 78643200 := by omega
          have Hz1 : Hid (4 - 300 * 64 ^ (j + 1) ≤ z * 64 - 128) := by show _ ≤ _; rw [Int.pow_succ]; omega
          have Hz2 : Hid (z * 64 + 128 ≤ 300 * 64 ^ (j + 1) - 4) := by show _ ≤ _; rw [Int.pow_succ]; omega
          clear hz1 hz2 hp
          by_cases hlt : j + 1 < K
          · have hjs : j + 1 < s.size := by have := HK.out; omega
            have hta : Hid (t[j]? = some s[j + 1]) := Hta.out j hjs
            have hbj : s[j + 1].toNat < 256 := s[j + 1].toNat_lt
            have Hs : Hid (cnd ((s[0].toNat : Int) - (mark K : Nat)) (t.take (j + 1)) = z * 64 + (s[j + 1].toNat : Int) - 128) := by
              show _ = _
              rw [take_at hta, cnd_snoc, ← hF.out]
            have hlt2 := hlt
            rw [HK.out] at hlt2
            go_wp2
            all_goals
              go_round
              case rel => exact ⟨j + 1, z * 64 + (s[j + 1].toNat : Int) - 128, by omega, by go_num, rfl, by have := Hz1.out; omega, by have := Hz2.out; omega, Hs.out.symm⟩
              case measure => simp [intOf]; omega
          · have hjK : K = j + 1 := by omega
            have Hc : Hid (z = cand K s[0] t) := by
              show z = _
              rw [hF.out, hjK]; rfl
            have Hx : Hid ((s.extract 0 K).toList = (s[0] :: t).take K) := by
              show _ = _
              rw [ByteArray.toList_eq]
              exact (bs_extract _ _ _).trans (by rw [List.drop_zero, Ht0.out])
            have hge := hlt
            rw [HK.out] at hge
            have Hj := Lib.hid hjK; clear hjK hlt
            by_cases hP : isP z = true
            · obtain ⟨n, hn⟩ := Int.eq_ofNat_of_zero_le ((isP_iff z).1 hP).1
              subst hn
              have hn2 := ((isP_iff n).1 hP).2.1
              have Hyes : Hid (enc n = (s[0] :: t).take K → rdV (bs s) = (n, K, true)) := fun hE => by rw [Ht0.out]; exact cand_yes hP hE (by rw [HK.out]; omega)
              have Hno : Hid (enc n ≠ (s[0] :: t).take K → ∀ m j', rd (bs s) = some (m, j') → K + 1 ≤ j') := fun hE m j' h => by
                have h1 := hno.out m j' h
                have hne : j' ≠ K := fun e => by
                  subst e
                  rw [Ht0.out] at h
                  refine cand_no (fun n' h3 h4 h5 => ?_) m h
                  have h6 : (n : Int) = n' := Hc.out.trans h3
                  obtain rfl : n = n' := by omega
                  exact hE h5
                rw [← HK.out] at h1
                omega
              have Hcmp : Hid ((enc n == (s.extract 0 K).toList) = decide (enc n = (s[0] :: t).take K)) := by
                show _ = _
                rw [Hx.out, Bool.eq_iff_iff]; simp
              rw [HK.out] at Hcmp
              go_wp2_with fail
              go_region_with (first
                | (go_at_call 50; refine (ris_any _ _).mono ?_; rintro e w1 ⟨rfl, rfl⟩)
                | (go_at_call 51; refine (rput3_any _ _ (by omega)).mono ?_; rintro e w1 ⟨rfl, hb1⟩))
              all_goals
                by_cases hE : enc n = (s[0] :: t).take K
                · have hv : v = (n, K, true) := by rw [← Hv.out]; exact Hyes.out hE
                  have hcmp := Hcmp.out
                  rw [decide_eq_true (by rw [← HK.out]; exact hE)] at hcmp
                  rw [HK.out] at hv
                  subst hv
                  have HE := Lib.hid hE; clear hE
                  go_wp2
                  all_goals first
                    | exact absurd ‹(enc n == _) = false› (by rw [hcmp]; decide)
                    | (go_ret3
                       exact ⟨rfl, hb.drew.trans (hb1.mono hb.drew.size)⟩)
                · have Hno2 := Lib.hid (Hno.out hE)
                  have hcmp := Hcmp.out
                  rw [decide_eq_false (by rw [← HK.out]; exact hE)] at hcmp
                  have HE := Lib.hid hE; clear hE
                  go_wp2
                  all_goals first
                    | exact absurd ‹(enc n == _) = true› (by rw [hcmp]; decide)
                    | (go_roundw
                       case rel => exact ⟨K + 1, by omega, by have := HK.out; omega, by rw [HK.out]; rfl, Hno2, hb.drew.trans (hb1.mono hb.drew.size)⟩
                       case measure => simp [intOf])
            · have hP' : isP z = false := by simpa using hP
              have Hno2 : Hid (∀ m j', rd (bs s) = some (m, j') → K + 1 ≤ j') := fun m j' h => by
                have h1 := hno.out m j' h
                have hne : j' ≠ K := fun e => by
                  subst e
                  rw [Ht0.out] at h
                  refine cand_no (fun n' h3 h4 h5 => ?_) m h
                  rw [Hc.out, h3] at hP'
                  rw [hP'] at h4; cases h4
                rw [← HK.out] at h1
                omega
              clear hP
              have Hby : Hid (∀ n, Below w.heap.size w (wr.drewN n)) := fun n => below_drewN hb n
              go_wp2_with fail
              go_quiet (first | (go_at_call 50; refine Calls.quiet_of_same (ris_no _ hP' _)))
              all_goals go_wp2
              all_goals
                go_roundw
                case rel => exact ⟨K + 1, by omega, by have := HK.out; omega, by rw [HK.out]; rfl, Hno2, Hby.out _⟩
                case measure => simp [intOf]
end Go.Proofs.YtbbdmphclnnejaaDoor
