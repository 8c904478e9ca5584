/-
  Contract of the document's own Read of layer 7, at strings and bytes.
-/
import Derived.Test.YtbbdmphclnnejaaDoorSkRefNumC
import Derived.Test.YtbbdmphclnnejaaDoorUtfRefMoreC
namespace Go.Proofs.YtbbdmphclnnejaaDoor
open Go.RowKit

theorem scan_ne' {l acc : List UInt8} {k : Nat} {c d : UInt8} (h : scan l = scanP acc k (scan (l.drop k))) (hk : l[k]? = some c) (hc : c = 0) (hk2 : l[k + 1]? = some d) (hd : d = 0) : scan l = (acc, k + 2, 0) := by
  rw [h, drop_at hk, drop_at hk2, hc, hd, scan_end]
  simp [scanP]; omega
theorem scan_nb' {l acc : List UInt8} {k : Nat} {c d : UInt8} (h : scan l = scanP acc k (scan (l.drop k))) (hk : l[k]? = some c) (hc : c = 0) (hk2 : l[k + 1]? = some d) (hd : d ≠ 0) (hd2 : d ≠ 255) : (scan l).2.2 = 5 := by
  rw [h, drop_at hk, drop_at hk2, hc, scan_bad _ hd2 hd]
  rfl
theorem scan_nc' {l acc : List UInt8} {k : Nat} {c : UInt8} (h : scan l = scanP acc k (scan (l.drop k))) (hk : l[k]? = some c) (hc : c = 0) (hl : l.length = k + 1) : (scan l).2.2 = 4 := by
  rw [h, drop_at hk, hc, List.drop_eq_nil_of_le (by omega), scan_cut]
  rfl
theorem scan_nd' {l acc : List UInt8} {k : Nat} (h : scan l = scanP acc k (scan (l.drop k))) (hl : l.length ≤ k) : (scan l).2.2 = 4 := by
  rw [h, List.drop_eq_nil_of_le hl, scan_nil]
  rfl
theorem skV_mk {k : Int} {a : ByteArray} {m : Nat} {z : Int} {c : Nat} (hk : (c : Int) = k) (hz : ((m + 1 : Nat) : Int) = z) : skV (((c : Int), 0, bs a), m + 1, 0) = .tuple #[VV k 0 a, .int .i64 z, .int .i64 0] := by
  subst hk hz
  unfold skV
  have e : (⟨(bs a).toArray⟩ : ByteArray) = a := bs_eq (bs_mk _)
  simp only [e]; rfl

set_option maxRecDepth 100000 in
set_option maxHeartbeats 1600000 in
theorem rread3 (s : ByteArray) (t : List UInt8) (w : World) (hs : s.size ≤ 1000000) (h0 : 0 < s.size) (hc : bs s = 3 :: t) : Calls Tryd.prog 14 #[.string s] w fun e w' => e = .returned (skV (readK (bs s))) ∧ Below w.heap.size w w' := by
  have hne := ne_empty s h0
  have hlen : s.size = t.length + 1 := by rw [← bs_length, hc]; rfl
  have hs0 : (s[0].toNat : Int) = 3 := by
    have h := bs_at s 0 h0
    rw [hc] at h
    have e : (3 : UInt8) = s[0] := by simpa using h
    rw [← e]; rfl
  have Hat : Hid (∀ j (hj : j + 1 < s.size), t[j]? = some s[j + 1]) := fun j hj => by
    have h := bs_at s (j + 1) hj
    rw [hc] at h
    simpa using h
  have Hv : Hid (skV (readK (bs s)) = skV (readK2 3 (scan t))) := by show _ = _; rw [hc, readK_3]
  generalize skV (readK (bs s)) = R at Hv
  clear hc
  go_enter Tryd.func14, Tryd.ntmps14
  go_wp2_with fail
  go_loop [6, 7] (fun x i => ∃ (j : Nat) (a : ByteArray), j + 1 ≤ s.size ∧ i = .int .i64 ((j : Int) + 1) ∧ x = .string a ∧ Hid (scan t = scanP (bs a) j (scan (t.drop j))) ∧ a.size ≤ j) (fun _ i => s.size - (intOf i).toNat)
  case atStart => exact ⟨0, ⟨#[]⟩, by omega, rfl, rfl, rfl, Nat.le_refl 0⟩
  case round =>
    obtain ⟨j, a, hj, rfl, rfl, Hsc, hal⟩ := hrel
    by_cases hlt : j + 1 < s.size
    · have At := Lib.hid (Hat.out j hlt)
      have hI : ((j : Int) + 1 < (s.size : Int)) := by omega
      by_cases hc : s[j + 1].toNat = 0
      · have d : ((s[j + 1].toNat : Int) == 0) = true := by simp [hc]
        have Hc := Lib.hid (u8_zero hc)
        clear hc
        by_cases hlt2 : j + 2 < s.size
        · have At2 := Lib.hid (Hat.out (j + 1) hlt2)
          have e1 : ((j : Int) + 1 + 1 == (s.size : Int)) = false := by simp; omega
          by_cases hd1 : s[j + 2].toNat = 255
          · have d3 : ((s[j + 2].toNat : Int) == 255) = true := by simp [hd1]
            have Hn0 := Lib.hid (scan_nm Hsc.out At.out Hc.out At2.out (show s[j + 1 + 1] = 255 from UInt8.toNat_inj.1 hd1))
            have hadd := fun w' => run_string_add_sum (P := Tryd.prog) (w := w') a ⟨#[0]⟩ (by rw [show (⟨#[0]⟩ : ByteArray).size = 1 from rfl]; omega)
            have Hn : Hid (scan t = scanP (bs (a ++ ⟨#[0]⟩)) (j + 2) (scan (t.drop (j + 2)))) := by
              show _ = _
              rw [bs_append]; exact Hn0.out
            have Hz : Hid ((a ++ ⟨#[0]⟩ : ByteArray).size ≤ j + 2) := by show _ ≤ _; rw [ByteArray.size_append, show (⟨#[0]⟩ : ByteArray).size = 1 from rfl]; omega
            clear hd1
            go_wp2_with fail
            go_round
            case rel => exact ⟨j + 2, _, by omega, by go_num, rfl, Hn.out, Hz.out⟩
            case measure => simp [intOf]; omega
          · have d3 : ((s[j + 2].toNat : Int) == 255) = false := by simp; omega
            by_cases hd0 : s[j + 2].toNat = 0
            · have d2 : ((s[j + 2].toNat : Int) == 0) = true := by simp [hd0]
              have d2' : ((s[j + 2].toNat : Int) != 0) = false := by simp [hd0]
              have He := Lib.hid (scan_ne' Hsc.out At.out Hc.out At2.out (u8_zero hd0))
              rw [He.out, chk_read2] at Hv
              clear hd0 hd1
              have HR := Lib.hid (fun w => rright_any a w (by omega))
              have Hk : Hid (chkE 3 (bs a) = if (sg (bs a)).isSome = false then 5 else if 120 < a.size then 3 else 0) := by show _ = _; unfold chkE; rw [bs_length]; simp
              generalize chkE 3 (bs a) = y at Hv Hk
              generalize (sg (bs a)).isSome = b at HR Hk
              have HZ1 := Lib.hid ((Blk3.new w (.int .i64 0) (.int .i64 0) (.string ⟨#[]⟩) 30).below ((Below.refl _ _).alloc (Nat.le_refl _) (.cells #[.int .i64 0, .int .i64 0, .string ⟨#[]⟩] 30)) (by simp))
              have HZ2 := Lib.hid (Blk3.new (w.alloc (.cells #[.int .i64 0, .int .i64 0, .string ⟨#[]⟩] 30)) (.int .i64 0) (.int .i64 0) (.string ⟨#[]⟩) 30)
              cases b
              · obtain rfl : y = 5 := Hk.out
                rw [if_neg (by decide)] at Hv
                go_wp2_with fail
                refine (HR.out _).mono ?_
                rintro e w1 ⟨rfl, hb1⟩
                have HB1 := Lib.hid (HZ1.out.below hb1 (by simp; omega))
                have HB2 := Lib.hid (HZ2.out.below hb1 (by simp))
                have hlt1 : w.heap.size + 1 < w1.heap.size := by have := hb1.size; simp at this; omega
                have hb1' : Below w.heap.size w w1 := (((Below.refl _ w).alloc (Nat.le_refl _) _).alloc (by simp) _).trans (hb1.mono (by simp; omega))
                clear hb1
                simp only [World.size_alloc] at HB2
                obtain ⟨c0, c1, c2, f0, f1, f2⟩ := HB1.out
                obtain ⟨e0, e1', e2, _, _, _⟩ := HB2.out
                go_wp2_with fail
                try simp only [Exit.inBlock, Exit.then]
                refine bodyPost_ret (results_v3 rfl _ _ rfl HB1.out.set3) rfl ?_
                exact ⟨by rw [Hv.out]; rfl, by go_grown⟩
              · rw [if_neg (by simp)] at Hk
                by_cases h120 : 120 < a.size
                · rw [if_pos h120] at Hk
                  obtain rfl : y = 3 := Hk.out
                  rw [if_neg (by decide)] at Hv
                  have d5 : decide (120 < (a.size : Int)) = true := by simp; omega
                  go_wp2_with fail
                  refine (HR.out _).mono ?_
                  rintro e w1 ⟨rfl, hb1⟩
                  have HB1 := Lib.hid (HZ1.out.below hb1 (by simp; omega))
                  have HB2 := Lib.hid (HZ2.out.below hb1 (by simp))
                  have hlt1 : w.heap.size + 1 < w1.heap.size := by have := hb1.size; simp at this; omega
                  have hb1' : Below w.heap.size w w1 := (((Below.refl _ w).alloc (Nat.le_refl _) _).alloc (by simp) _).trans (hb1.mono (by simp; omega))
                  clear hb1
                  simp only [World.size_alloc] at HB2
                  obtain ⟨c0, c1, c2, f0, f1, f2⟩ := HB1.out
                  obtain ⟨e0, e1', e2, _, _, _⟩ := HB2.out
                  go_wp2_with fail
                  try simp only [Exit.inBlock, Exit.then]
                  refine bodyPost_ret (results_v3 rfl _ _ rfl HB1.out.set3) rfl ?_
                  exact ⟨by rw [Hv.out]; rfl, by go_grown⟩
                · rw [if_neg h120] at Hk
                  obtain rfl : y = 0 := Hk.out
                  rw [if_pos rfl] at Hv
                  have Hv2 : Hid (R = .tuple #[VV 3 0 a, .int .i64 ((j : Int) + 1 + 1 + 1), .int .i64 0]) := by
                    show _ = _
                    rw [Hv.out]
                    exact skV_mk rfl (by omega)
                  have d5 : decide (120 < (a.size : Int)) = false := by simp; omega
                  go_wp2_with fail
                  refine (HR.out _).mono ?_
                  rintro e w1 ⟨rfl, hb1⟩
                  have HB1 := Lib.hid (HZ1.out.below hb1 (by simp; omega))
                  have HB2 := Lib.hid (HZ2.out.below hb1 (by simp))
                  have hlt1 : w.heap.size + 1 < w1.heap.size := by have := hb1.size; simp at this; omega
                  have hb1' : Below w.heap.size w w1 := (((Below.refl _ w).alloc (Nat.le_refl _) _).alloc (by simp) _).trans (hb1.mono (by simp; omega))
                  clear hb1
                  simp only [World.size_alloc] at HB2
                  obtain ⟨c0, c1, c2, f0, f1, f2⟩ := HB1.out
                  obtain ⟨e0, e1', e2, _, _, _⟩ := HB2.out
                  go_wp2_with fail
                  try simp only [Exit.inBlock, Exit.then]
                  refine bodyPost_ret (results_v3 rfl _ _ rfl HB1.out.set3) rfl ?_
                  exact ⟨by rw [Hv2.out]; rfl, by go_grown⟩
            · have d2 : ((s[j + 2].toNat : Int) == 0) = false := by simp; omega
              have d2' : ((s[j + 2].toNat : Int) != 0) = true := by simp; omega
              have He := Lib.hid (scan_nb' Hsc.out At.out Hc.out At2.out (u8_nonzero hd0) (fun e => hd1 (by rw [show s[j + 2] = 255 from e]; rfl)))
              rw [err_read2 _ _ (by rw [He.out]; decide), He.out] at Hv
              clear hd0 hd1
              go_wp2_with fail
              go_returns
              exact ⟨by rw [Hv.out]; rfl, by go_grown⟩
        · have e1 : ((j : Int) + 1 + 1 == (s.size : Int)) = true := by simp; omega
          have He := Lib.hid (scan_nc' Hsc.out At.out Hc.out (by omega))
          rw [err_read2 _ _ (by rw [He.out]; decide), He.out] at Hv
          go_wp2_with fail
          go_returns
          exact ⟨by rw [Hv.out]; rfl, by go_grown⟩
      · have d : ((s[j + 1].toNat : Int) == 0) = false := by simp [hc]
        have Hn0 := Lib.hid (scan_nx Hsc.out At.out (u8_nonzero hc))
        have H1 := Lib.hid (bs_one s (j + 1) hlt)
        have H1s : Hid ((s.extract (j + 1) (j + 2)).size = 1) := size_of H1.out
        have hadd := fun w' => run_string_add_sum (P := Tryd.prog) (w := w') a (s.extract (j + 1) (j + 2)) (by have := H1s.out; omega)
        have Hn : Hid (scan t = scanP (bs (a ++ s.extract (j + 1) (j + 2))) (j + 1) (scan (t.drop (j + 1)))) := by
          show _ = _
          rw [bs_append, show bs (s.extract (j + 1) (j + 2)) = [s[j + 1]] from H1.out]; exact Hn0.out
        have Hz : Hid ((a ++ s.extract (j + 1) (j + 2)).size ≤ j + 1) := by show _ ≤ _; rw [ByteArray.size_append]; have := H1s.out; omega
        clear hc
        go_wp2_with fail
        go_round
        case rel => exact ⟨j + 1, _, by omega, by go_num, rfl, Hn.out, Hz.out⟩
        case measure => simp [intOf]; omega
    · have hI : ¬ ((j : Int) + 1 < (s.size : Int)) := by omega
      have He := Lib.hid (scan_nd' Hsc.out (by omega))
      rw [err_read2 _ _ (by rw [He.out]; decide), He.out] at Hv
      go_wp2_with fail
      go_returns
      exact ⟨by rw [Hv.out]; rfl, by go_grown⟩

set_option maxRecDepth 100000 in
set_option maxHeartbeats 1600000 in
theorem rread4 (s : ByteArray) (t : List UInt8) (w : World) (hs : s.size ≤ 1000000) (h0 : 0 < s.size) (hc : bs s = 4 :: t) : Calls Tryd.prog 14 #[.string s] w fun e w' => e = .returned (skV (readK (bs s))) ∧ Below w.heap.size w w' := by
  have hne := ne_empty s h0
  have hlen : s.size = t.length + 1 := by rw [← bs_length, hc]; rfl
  have hs0 : (s[0].toNat : Int) = 4 := by
    have h := bs_at s 0 h0
    rw [hc] at h
    have e : (4 : UInt8) = s[0] := by simpa using h
    rw [← e]; rfl
  have Hat : Hid (∀ j (hj : j + 1 < s.size), t[j]? = some s[j + 1]) := fun j hj => by
    have h := bs_at s (j + 1) hj
    rw [hc] at h
    simpa using h
  have Hv : Hid (skV (readK (bs s)) = skV (readK2 4 (scan t))) := by show _ = _; rw [hc, readK_4]
  generalize skV (readK (bs s)) = R at Hv
  clear hc
  go_enter Tryd.func14, Tryd.ntmps14
  go_wp2_with fail
  go_loop [6, 7] (fun x i => ∃ (j : Nat) (a : ByteArray), j + 1 ≤ s.size ∧ i = .int .i64 ((j : Int) + 1) ∧ x = .string a ∧ Hid (scan t = scanP (bs a) j (scan (t.drop j))) ∧ a.size ≤ j) (fun _ i => s.size - (intOf i).toNat)
  case atStart => exact ⟨0, ⟨#[]⟩, by omega, rfl, rfl, rfl, Nat.le_refl 0⟩
  case round =>
    obtain ⟨j, a, hj, rfl, rfl, Hsc, hal⟩ := hrel
    by_cases hlt : j + 1 < s.size
    · have At := Lib.hid (Hat.out j hlt)
      have hI : ((j : Int) + 1 < (s.size : Int)) := by omega
      by_cases hc : s[j + 1].toNat = 0
      · have d : ((s[j + 1].toNat : Int) == 0) = true := by simp [hc]
        have Hc := Lib.hid (u8_zero hc)
        clear hc
        by_cases hlt2 : j + 2 < s.size
        · have At2 := Lib.hid (Hat.out (j + 1) hlt2)
          have e1 : ((j : Int) + 1 + 1 == (s.size : Int)) = false := by simp; omega
          by_cases hd1 : s[j + 2].toNat = 255
          · have d3 : ((s[j + 2].toNat : Int) == 255) = true := by simp [hd1]
            have Hn0 := Lib.hid (scan_nm Hsc.out At.out Hc.out At2.out (show s[j + 1 + 1] = 255 from UInt8.toNat_inj.1 hd1))
            have hadd := fun w' => run_string_add_sum (P := Tryd.prog) (w := w') a ⟨#[0]⟩ (by rw [show (⟨#[0]⟩ : ByteArray).size = 1 from rfl]; omega)
            have Hn : Hid (scan t = scanP (bs (a ++ ⟨#[0]⟩)) (j + 2) (scan (t.drop (j + 2)))) := by
              show _ = _
              rw [bs_append]; exact Hn0.out
            have Hz : Hid ((a ++ ⟨#[0]⟩ : ByteArray).size ≤ j + 2) := by show _ ≤ _; rw [ByteArray.size_append, show (⟨#[0]⟩ : ByteArray).size = 1 from rfl]; omega
            clear hd1
            go_wp2_with fail
            go_round
            case rel => exact ⟨j + 2, _, by omega, by go_num, rfl, Hn.out, Hz.out⟩
            case measure => simp [intOf]; omega
          · have d3 : ((s[j + 2].toNat : Int) == 255) = false := by simp; omega
            by_cases hd0 : s[j + 2].toNat = 0
            · have d2 : ((s[j + 2].toNat : Int) == 0) = true := by simp [hd0]
              have d2' : ((s[j + 2].toNat : Int) != 0) = false := by simp [hd0]
              have He := Lib.hid (scan_ne' Hsc.out At.out Hc.out At2.out (u8_zero hd0))
              rw [He.out, chk_read2] at Hv
              clear hd0 hd1
              have Hk : Hid (chkE 4 (bs a) = if 120 < a.size then 3 else 0) := by show _ = _; unfold chkE; rw [bs_length, if_neg (by simp)]
              generalize chkE 4 (bs a) = y at Hv Hk
              by_cases h120 : 120 < a.size
              · rw [if_pos h120] at Hk
                obtain rfl : y = 3 := Hk.out
                rw [if_neg (by decide)] at Hv
                have d5 : decide (120 < (a.size : Int)) = true := by simp; omega
                go_wp2_with fail
                go_returns
                exact ⟨by rw [Hv.out]; rfl, by go_grown⟩
              · rw [if_neg h120] at Hk
                obtain rfl : y = 0 := Hk.out
                rw [if_pos rfl] at Hv
                have Hv2 : Hid (R = .tuple #[VV 4 0 a, .int .i64 ((j : Int) + 1 + 1 + 1), .int .i64 0]) := by
                  show _ = _
                  rw [Hv.out]
                  exact skV_mk rfl (by omega)
                have d5 : decide (120 < (a.size : Int)) = false := by simp; omega
                go_wp2_with fail
                go_returns
                exact ⟨by rw [Hv2.out], by go_grown⟩
            · have d2 : ((s[j + 2].toNat : Int) == 0) = false := by simp; omega
              have d2' : ((s[j + 2].toNat : Int) != 0) = true := by simp; omega
              have He := Lib.hid (scan_nb' Hsc.out At.out Hc.out At2.out (u8_nonzero hd0) (fun e => hd1 (by rw [show s[j + 2] = 255 from e]; rfl)))
              rw [err_read2 _ _ (by rw [He.out]; decide), He.out] at Hv
              clear hd0 hd1
              go_wp2_with fail
              go_returns
              exact ⟨by rw [Hv.out]; rfl, by go_grown⟩
        · have e1 : ((j : Int) + 1 + 1 == (s.size : Int)) = true := by simp; omega
          have He := Lib.hid (scan_nc' Hsc.out At.out Hc.out (by omega))
          rw [err_read2 _ _ (by rw [He.out]; decide), He.out] at Hv
          go_wp2_with fail
          go_returns
          exact ⟨by rw [Hv.out]; rfl, by go_grown⟩
      · have d : ((s[j + 1].toNat : Int) == 0) = false := by simp [hc]
        have Hn0 := Lib.hid (scan_nx Hsc.out At.out (u8_nonzero hc))
        have H1 := Lib.hid (bs_one s (j + 1) hlt)
        have H1s : Hid ((s.extract (j + 1) (j + 2)).size = 1) := size_of H1.out
        have hadd := fun w' => run_string_add_sum (P := Tryd.prog) (w := w') a (s.extract (j + 1) (j + 2)) (by have := H1s.out; omega)
        have Hn : Hid (scan t = scanP (bs (a ++ s.extract (j + 1) (j + 2))) (j + 1) (scan (t.drop (j + 1)))) := by
          show _ = _
          rw [bs_append, show bs (s.extract (j + 1) (j + 2)) = [s[j + 1]] from H1.out]; exact Hn0.out
        have Hz : Hid ((a ++ s.extract (j + 1) (j + 2)).size ≤ j + 1) := by show _ ≤ _; rw [ByteArray.size_append]; have := H1s.out; omega
        clear hc
        go_wp2_with fail
        go_round
        case rel => exact ⟨j + 1, _, by omega, by go_num, rfl, Hn.out, Hz.out⟩
        case measure => simp [intOf]; omega
    · have hI : ¬ ((j : Int) + 1 < (s.size : Int)) := by omega
      have He := Lib.hid (scan_nd' Hsc.out (by omega))
      rw [err_read2 _ _ (by rw [He.out]; decide), He.out] at Hv
      go_wp2_with fail
      go_returns
      exact ⟨by rw [Hv.out]; rfl, by go_grown⟩

set_option maxRecDepth 100000 in
set_option maxHeartbeats 800000 in
theorem rreadE (w : World) : Calls Tryd.prog 14 #[.string ⟨#[]⟩] w fun e w' => e = .returned (skV (readK (bs ⟨#[]⟩))) ∧ Below w.heap.size w w' := by
  go_enter Tryd.func14, Tryd.ntmps14
  go_wp2_with fail
  go_returns
  exact ⟨rfl, by go_grown⟩
set_option maxRecDepth 100000 in
set_option maxHeartbeats 800000 in
theorem rreadBig (s : ByteArray) (t : List UInt8) (c : UInt8) (w : World) (_ : s.size ≤ 1000000) (h0 : 0 < s.size) (hc : bs s = c :: t) (hs0 : s[0] = c) (h4 : 4 < c.toNat) : Calls Tryd.prog 14 #[.string s] w fun e w' => e = .returned (skV (readK (bs s))) ∧ Below w.heap.size w w' := by
  have hne := ne_empty s h0
  have Hv : Hid (skV (readK (bs s)) = skV (noV, 0, 5)) := by show _ = _; rw [hc]; simp only [readK]; rw [if_pos h4]
  have d : decide (4 < (s[0].toNat : Int)) = true := by rw [hs0]; simp; omega
  generalize skV (readK (bs s)) = R at Hv
  go_enter Tryd.func14, Tryd.ntmps14
  go_wp2_with fail
  go_returns
  exact ⟨by rw [Hv.out]; rfl, by go_grown⟩
set_option maxRecDepth 100000 in
set_option maxHeartbeats 800000 in
theorem rread0 (s : ByteArray) (t : List UInt8) (w : World) (_ : s.size ≤ 1000000) (h0 : 0 < s.size) (hc : bs s = 0 :: t) (hs0 : s[0] = 0) : Calls Tryd.prog 14 #[.string s] w fun e w' => e = .returned (skV (readK (bs s))) ∧ Below w.heap.size w w' := by
  have hne := ne_empty s h0
  have Hv : Hid (skV (readK (bs s)) = skV (noV, 1, 0)) := by show _ = _; rw [hc]; rfl
  have hs0' : (s[0].toNat : Int) = 0 := by rw [hs0]; rfl
  clear hs0
  generalize skV (readK (bs s)) = R at Hv
  go_enter Tryd.func14, Tryd.ntmps14
  go_wp2_with fail
  go_returns
  exact ⟨by rw [Hv.out]; rfl, by go_grown⟩

set_option maxRecDepth 100000 in
set_option maxHeartbeats 800000 in
theorem rread1 (s : ByteArray) (t : List UInt8) (w : World) (hs : s.size ≤ 1000000) (h0 : 0 < s.size) (hc : bs s = 1 :: t) (hs0 : s[0] = 1) : Calls Tryd.prog 14 #[.string s] w fun e w' => e = .returned (skV (readK (bs s))) ∧ Below w.heap.size w w' := by
  have hne := ne_empty s h0
  have HN := Lib.hid (fun w => rnum1 s t w hs hc)
  have hs0' : (s[0].toNat : Int) = 1 := by rw [hs0]; rfl
  clear hs0 hc
  generalize readK (bs s) = q at HN
  obtain ⟨⟨vk, vn, vt⟩, m, x⟩ := q
  replace HN : Hid (∀ w, Calls Tryd.prog 27 #[.string s, .int .i64 1, .int .i64 4] w fun e w' => e = .returned (.tuple #[VV vk vn ⟨vt.toArray⟩, .int .i64 (m : Nat), .int .i64 (x : Nat)]) ∧ Below w.heap.size w w') := HN
  have Hv : Hid (skV ((vk, vn, vt), m, x) = .tuple #[VV vk vn ⟨vt.toArray⟩, .int .i64 (m : Nat), .int .i64 (x : Nat)]) := rfl
  generalize (⟨vt.toArray⟩ : ByteArray) = T at HN Hv
  have HZ1 := Lib.hid ((Blk3.new w (.int .i64 0) (.int .i64 0) (.string ⟨#[]⟩) 30).below ((Below.refl _ _).alloc (Nat.le_refl _) (.cells #[.int .i64 0, .int .i64 0, .string ⟨#[]⟩] 30)) (by simp))
  go_enter Tryd.func14, Tryd.ntmps14
  go_wp2_with fail
  refine (HN.out _).mono ?_
  rintro e w1 ⟨rfl, hb1⟩
  have HB1 := Lib.hid (HZ1.out.below hb1 (by simp; omega))
  have hlt1 : w.heap.size + 1 < w1.heap.size := by have := hb1.size; simp at this; omega
  have hb1' : Below w.heap.size w w1 := (((Below.refl _ w).alloc (Nat.le_refl _) _).alloc (by simp) _).trans (hb1.mono (by simp; omega))
  clear hb1
  obtain ⟨c0, c1, c2, f0, f1, f2⟩ := HB1.out
  go_wp2_with fail
  try simp only [Exit.inBlock, Exit.then]
  refine bodyPost_ret (results_v3 rfl _ _ rfl HB1.out.set3) rfl ?_
  exact ⟨by rw [Hv.out]; rfl, by go_grown⟩

set_option maxRecDepth 100000 in
set_option maxHeartbeats 800000 in
theorem rread2 (s : ByteArray) (t : List UInt8) (w : World) (hs : s.size ≤ 1000000) (h0 : 0 < s.size) (hc : bs s = 2 :: t) (hs0 : s[0] = 2) : Calls Tryd.prog 14 #[.string s] w fun e w' => e = .returned (skV (readK (bs s))) ∧ Below w.heap.size w w' := by
  have hne := ne_empty s h0
  have HN := Lib.hid (fun w => rnum2 s t w hs hc)
  have hs0' : (s[0].toNat : Int) = 2 := by rw [hs0]; rfl
  clear hs0 hc
  generalize readK (bs s) = q at HN
  obtain ⟨⟨vk, vn, vt⟩, m, x⟩ := q
  replace HN : Hid (∀ w, Calls Tryd.prog 27 #[.string s, .int .i64 2, .int .i64 8] w fun e w' => e = .returned (.tuple #[VV vk vn ⟨vt.toArray⟩, .int .i64 (m : Nat), .int .i64 (x : Nat)]) ∧ Below w.heap.size w w') := HN
  have Hv : Hid (skV ((vk, vn, vt), m, x) = .tuple #[VV vk vn ⟨vt.toArray⟩, .int .i64 (m : Nat), .int .i64 (x : Nat)]) := rfl
  generalize (⟨vt.toArray⟩ : ByteArray) = T at HN Hv
  have HZ1 := Lib.hid ((Blk3.new w (.int .i64 0) (.int .i64 0) (.string ⟨#[]⟩) 30).below ((Below.refl _ _).alloc (Nat.le_refl _) (.cells #[.int .i64 0, .int .i64 0, .string ⟨#[]⟩] 30)) (by simp))
  go_enter Tryd.func14, Tryd.ntmps14
  go_wp2_with fail
  refine (HN.out _).mono ?_
  rintro e w1 ⟨rfl, hb1⟩
  have HB1 := Lib.hid (HZ1.out.below hb1 (by simp; omega))
  have hlt1 : w.heap.size + 1 < w1.heap.size := by have := hb1.size; simp at this; omega
  have hb1' : Below w.heap.size w w1 := (((Below.refl _ w).alloc (Nat.le_refl _) _).alloc (by simp) _).trans (hb1.mono (by simp; omega))
  clear hb1
  obtain ⟨c0, c1, c2, f0, f1, f2⟩ := HB1.out
  go_wp2_with fail
  try simp only [Exit.inBlock, Exit.then]
  refine bodyPost_ret (results_v3 rfl _ _ rfl HB1.out.set3) rfl ?_
  exact ⟨by rw [Hv.out]; rfl, by go_grown⟩

theorem rread7_any (s : ByteArray) (w : World) (hs : s.size ≤ 1000000) : Calls Tryd.prog 14 #[.string s] w fun e w' => e = .returned (skV (readK (bs s))) ∧ Below w.heap.size w w' := by
  by_cases h0 : 0 < s.size
  · obtain ⟨t, hc, _, _⟩ := bs_cons s h0
    obtain ⟨c, hs0⟩ : ∃ c, s[0] = c := ⟨_, rfl⟩
    rw [hs0] at hc
    by_cases h : 4 < c.toNat
    · exact rreadBig s t c w hs h0 hc hs0 h
    by_cases k0 : c.toNat = 0
    · obtain rfl : c = 0 := UInt8.toNat_inj.1 k0
      exact rread0 s t w hs h0 hc hs0
    by_cases k1 : c.toNat = 1
    · obtain rfl : c = 1 := UInt8.toNat_inj.1 k1
      exact rread1 s t w hs h0 hc hs0
    by_cases k2 : c.toNat = 2
    · obtain rfl : c = 2 := UInt8.toNat_inj.1 k2
      exact rread2 s t w hs h0 hc hs0
    by_cases k3 : c.toNat = 3
    · obtain rfl : c = 3 := UInt8.toNat_inj.1 k3
      exact rread3 s t w hs h0 hc
    · obtain rfl : c = 4 := UInt8.toNat_inj.1 (show c.toNat = 4 by omega)
      exact rread4 s t w hs h0 hc
  · obtain rfl : s = ⟨#[]⟩ := is_empty s (by omega)
    exact rreadE w
end Go.Proofs.YtbbdmphclnnejaaDoor
