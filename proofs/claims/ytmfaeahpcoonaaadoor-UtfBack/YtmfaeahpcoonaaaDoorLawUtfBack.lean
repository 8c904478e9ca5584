/-
  UtfBack: for every number and every string the law returns true: what is put is read, whatever stands behind it, and the code points of a valid string are its text. No condition but that the two tables read as the program's text lays them (tied by the card).
-/
import Derived.Test.YtmfaeahpcoonaaaDoorUtfLivesC
import Derived.Test.YtmfaeahpcoonaaaDoorTie
import Derived.Test.YtmfaeahpcoonaaaDoorCards
import Derived.ProofKit
import Derived.OpenShut
import Derived.ShutString
import Derived.ChangeOld
import Derived.LaidMore
import Derived.SevenTiedAt
namespace Go.Proofs.YtmfaeahpcoonaaaDoor.utfBack
open Go.ChangeShapes Go.WideShapes Go.ChangeAt Go.RowKit
open Go.ChangeMaps (open_string shut_string)

set_option maxRecDepth 100000 in
set_option maxHeartbeats 400000 in
theorem walk_t (n : Int) (s : ByteArray) (w : World) (hs : s.size ≤ maxLen) (ht : UTab w) :
    Calls Tryd.prog 6 #[.int .i64 n, .string s] w fun e w' => e = .returned (.bool true) ∧ Below w.heap.size w w' := by
  unfold maxLen at hs
  have HT := Lib.hid ht; clear ht
  by_cases h : 100 < s.size
  · have hd : decide (100 < (s.size : Int)) = true := by simp; omega
    go_enter Tryd.func6, Tryd.ntmps6
    go_wp2_with (go_at_call 8; refine (lives3_any _ HT.out).mono ?_; rintro e w1 ⟨rfl, hb1⟩)
    go_ret
    exact ⟨rfl, hb1⟩
  have hd : decide (100 < (s.size : Int)) = false := by simp; omega
  go_enter Tryd.func6, Tryd.ntmps6
  go_wp2_with fail
  refine (lives3_any _ HT.out).mono ?_
  rintro e w1 ⟨rfl, hb1⟩
  have HT1 := Lib.hid (HT.out.below hb1 (Nat.le_refl _))
  go_wp2_with fail
  refine (put_as n _ HT1.out).mono ?_
  rintro e w2 ⟨t, rfl, ha1, ha2, ha3, hb2⟩
  have HT2 := Lib.hid (HT1.out.below hb2 (Nat.le_refl _))
  have Ha1 := Lib.hid ha1; clear ha1 ha2
  have hadd := fun w' => run_string_add_sum (P := Tryd.prog) (w := w') t s (by omega)
  have hsz : (t ++ s).size = t.size + s.size := ByteArray.size_append
  have Hb2 : Hid (Below w.heap.size w w2) := hb1.trans (hb2.mono hb1.size)
  clear hb1 hb2
  obtain ⟨a, k, b, Hrd, Hok⟩ : ∃ (a k : Nat) (b : Bool), Hid (rdV (bs (t ++ s)) = (a, k, b)) ∧ Hid (isP n = true → b = true ∧ (a : Int) = n ∧ k = t.size) := by
    cases hP : isP n with
    | false => exact ⟨_, _, _, rfl, fun h => by cases h⟩
    | true =>
      obtain ⟨m, rfl, hPm, _⟩ := isP_nat hP
      have h1 := Ha1.out hP
      rw [Int.toNat_natCast] at h1
      have h2 : rd (bs (t ++ s)) = some (m, t.size) := by
        rw [bs_append, h1, rd_enc m _ hPm, ← enc_length, ← h1, bs_length]
      exact ⟨m, t.size, true, rdV_some h2, fun _ => ⟨rfl, rfl, rfl⟩⟩
  have Hread := Lib.hid (read_any (t ++ s) w2 HT2.out (by omega))
  rw [Hrd.out] at Hread
  go_wp2_with fail
  refine Hread.out.mono ?_
  rintro e w3 ⟨rfl, hb3⟩
  have HT3 := Lib.hid (HT2.out.below hb3 (Nat.le_refl _))
  have Hb3 : Hid (Below w.heap.size w w3) := Hb2.out.trans (hb3.mono Hb2.out.size)
  clear hb3
  cases hP : isP n with
  | false =>
    cases hsg : sg (bs s) with
    | none =>
      have Hsg := Lib.hid hsg; clear hsg
      go_wp2_with fail
      refine (right_as s false _ HT3.out (by omega) (by rw [Hsg.out]; rfl)).mono ?_
      rintro e w4 ⟨rfl, hb4⟩
      have HT4 := Lib.hid (HT3.out.below hb4 (Nat.le_refl _))
      go_wp2_with fail
      refine (count_none s _ HT4.out (by omega) Hsg.out).mono ?_
      rintro e w5 ⟨rfl, hb5⟩
      have HT5 := Lib.hid (HT4.out.below hb5 (Nat.le_refl _))
      go_wp2_with fail
      refine (signs_none s _ HT5.out (by omega) Hsg.out).mono ?_
      rintro e w6 ⟨rfl, hb6⟩
      go_wp2
      go_ret
      exact ⟨rfl, Hb3.out.trans ((hb4.trans ((hb5.trans (hb6.mono hb5.size)).mono hb4.size)).mono Hb3.out.size)⟩
    | some ns =>
      have Hsg := Lib.hid hsg
      have hlen := sg_len hsg
      rw [bs_length] at hlen
      clear hsg
      go_wp2_with fail
      refine (right_as s true _ HT3.out (by omega) (by rw [Hsg.out]; rfl)).mono ?_
      rintro e w4 ⟨rfl, hb4⟩
      have HT4 := Lib.hid (HT3.out.below hb4 (Nat.le_refl _))
      go_wp2_with fail
      refine (signs_some s ns _ HT4.out (by omega) Hsg.out).mono ?_
      rintro e w5 ⟨A, c, rfl, hA, hb5⟩
      have HT5 := Lib.hid (HT4.out.below hb5 (Nat.le_refl _))
      have HA := Lib.hid hA; clear hA
      go_wp2_with fail
      refine (text_back s ns A c _ HT5.out HA.out (by omega) Hsg.out).mono ?_
      rintro e w6 ⟨rfl, hb6⟩
      have HT6 := Lib.hid (HT5.out.below hb6 (Nat.le_refl _))
      go_wp2_with fail
      refine (cut_all s ns _ HT6.out (by omega) Hsg.out).mono ?_
      rintro e w7 ⟨rfl, hb7⟩
      go_wp2
      go_ret
      exact ⟨rfl, Hb3.out.trans ((hb4.trans ((hb5.trans ((hb6.trans (hb7.mono hb6.size)).mono hb5.size)).mono hb4.size)).mono Hb3.out.size)⟩
  | true =>
    obtain ⟨rfl, rfl, rfl⟩ := Hok.out hP
    cases hsg : sg (bs s) with
    | none =>
      have Hsg := Lib.hid hsg; clear hsg
      go_wp2_with fail
      refine (right_as s false _ HT3.out (by omega) (by rw [Hsg.out]; rfl)).mono ?_
      rintro e w4 ⟨rfl, hb4⟩
      have HT4 := Lib.hid (HT3.out.below hb4 (Nat.le_refl _))
      go_wp2_with fail
      refine (count_none s _ HT4.out (by omega) Hsg.out).mono ?_
      rintro e w5 ⟨rfl, hb5⟩
      have HT5 := Lib.hid (HT4.out.below hb5 (Nat.le_refl _))
      go_wp2_with fail
      refine (signs_none s _ HT5.out (by omega) Hsg.out).mono ?_
      rintro e w6 ⟨rfl, hb6⟩
      go_wp2
      go_ret
      exact ⟨rfl, Hb3.out.trans ((hb4.trans ((hb5.trans (hb6.mono hb5.size)).mono hb4.size)).mono Hb3.out.size)⟩
    | some ns =>
      have Hsg := Lib.hid hsg
      have hlen := sg_len hsg
      rw [bs_length] at hlen
      clear hsg
      go_wp2_with fail
      refine (right_as s true _ HT3.out (by omega) (by rw [Hsg.out]; rfl)).mono ?_
      rintro e w4 ⟨rfl, hb4⟩
      have HT4 := Lib.hid (HT3.out.below hb4 (Nat.le_refl _))
      go_wp2_with fail
      refine (signs_some s ns _ HT4.out (by omega) Hsg.out).mono ?_
      rintro e w5 ⟨A, c, rfl, hA, hb5⟩
      have HT5 := Lib.hid (HT4.out.below hb5 (Nat.le_refl _))
      have HA := Lib.hid hA; clear hA
      go_wp2_with fail
      refine (text_back s ns A c _ HT5.out HA.out (by omega) Hsg.out).mono ?_
      rintro e w6 ⟨rfl, hb6⟩
      have HT6 := Lib.hid (HT5.out.below hb6 (Nat.le_refl _))
      go_wp2_with fail
      refine (cut_all s ns _ HT6.out (by omega) Hsg.out).mono ?_
      rintro e w7 ⟨rfl, hb7⟩
      go_wp2
      go_ret
      exact ⟨rfl, Hb3.out.trans ((hb4.trans ((hb5.trans ((hb6.trans (hb7.mono hb6.size)).mono hb5.size)).mono hb4.size)).mono Hb3.out.size)⟩

theorem walk (n : Int) (s : ByteArray) (w : World) (_ : (Lit.int .i64 n).wf = true) (hs : s.size ≤ maxLen) (hL : laidMetH Tryd.prog Rows.utfBackRow.laid w) :
    Calls Tryd.prog 6 #[.int .i64 n, .string s] w fun e w' => e = .returned (.bool true) ∧ Below w.heap.size w w' :=
  walk_t n s w hs (utab_of (by kernel_rfl) (by repeat (first | exact List.Mem.head _ | apply List.Mem.tail)) (by repeat (first | exact List.Mem.head _ | apply List.Mem.tail)) hL)

theorem own : ownKnob Tryd.prog.godebug = none := by kernel_rfl
theorem laidOut : laidOutB Tryd.prog = true := by kernel_rfl
theorem door_met (os : Os) (args : Array Value) : laidMetH Tryd.prog Rows.utfBackRow.laid ((World.doorLaid Tryd.prog 19 os).forCall (fun _ _ => 0) ⟨#[], args, []⟩).memory :=
  laidMetH_of_parts3 (fuel := 8) (laidMet_of_run' 8 (by kernel_rfl) (by kernel_rfl)) (by kernel_rfl) (by kernel_rfl)
set_option maxRecDepth 100000 in
theorem lifted (os : Os) (started : os.Started) (H : Type) (enc : TypeId × Value → H) :
    ReturnsInHanded {} Tryd.checked os 6 .any (fun w args => (Rows.utfBackSpec.pre enc Tryd.prog Tryd.f6 [] false w args ∧ laidMetH Tryd.prog Rows.utfBackRow.laid w) ∧ sizedMet enc Tryd.prog Tryd.f6 (OpenSpec.ofChange Rows.utfBackSpec) false w args)
      (Rows.utfBackSpec.post enc Tryd.prog Tryd.f6 false true false false) := by
  refine returnsInHanded_of_change_and (C := Tryd.checked) (X := fun w _ => laidMetH Tryd.prog Rows.utfBackRow.laid w) (fun _ _ _ hh h => h.of_heap hh) own started (by kernel_rfl) Tryd.func6
    (ChangeSpec.witness_shaped (enc := enc) (C := Tryd.checked) (os := os) (X := fun w _ => laidMetH Tryd.prog Rows.utfBackRow.laid w) false (World.doorLaid Tryd.prog 19 os) #[.int .i64 0, .string ByteArray.empty] 8 rfl (World.shaped_of_RefB (by kernel_rfl) (by kernel_rfl)) (by kernel_rfl) (by kernel_rfl) (by kernel_rfl) (door_met os _)) ?_
  intro W base args ds gs before hval0 hW hcnd _ hL _
  have hval : ∀ (j : Nat) t v, Tryd.f6.params[j]? = some t → args[j]? = some v → Value.okWide Tryd.prog W .any base t v := hval0
  have hW' := hW
  obtain ⟨p, q, hA0, hV, rfl, hfz, hnd⟩ := hW
  have hA : DataW.TrodAll enc Tryd.prog W 0 (fun _ => true) true Tryd.f6.params.toList args.toList ds p := hA0
  rw [Tryd.params6] at hA hval
  obtain ⟨v0, vs0, d0, ds0, p0, q0, hargs, rfl, rfl, h0, r0⟩ := trodAll_cons hA
  obtain ⟨v1, vs1, d1, ds1, p1, q1, rfl, rfl, rfl, h1, r1⟩ := trodAll_cons r0
  obtain ⟨rfl, rfl, rfl⟩ := trodAll_nil r1
  obtain rfl : args = #[v0, v1] := by cases args; simp_all
  obtain ⟨rfl, rfl⟩ := trodVars_none hV
  obtain ⟨a0, rfl, rfl, rfl, w0⟩ := open_int Tryd.underlying3 (hval 0 3 v0 rfl rfl) h0
  obtain ⟨a1, rfl, rfl, rfl, w1⟩ := open_string Tryd.underlying9 (hval 1 9 v1 rfl rfl) h1
  clear hA0 hval0
  refine (walk a0 a1 W w0 w1 hL).mono fun e W' ⟨he, bel⟩ => ?_
  subst he
  exact ⟨_, rfl, _, _, _, [], _, [], hW', trodAll_mk1 (shut_bool Tryd.underlying4 _), (trodAll_cons_mk (shut_int Tryd.underlying3 w0) (trodAll_cons_mk (shut_string Tryd.underlying9 w1) trodAll_mk0)), rfl, bel.frame _, fun h => by cases h⟩

theorem over : Rows.UtfBackSaid :=
  OpenClaim.holds_of_wide 6 Tryd.f6 rfl rfl rfl rfl rfl rfl rfl ⟨rfl, rfl, rfl, rfl, rfl⟩ rfl rfl rfl rfl rfl (by kernel_rfl) Tryd.func6 (by kernel_rfl)
    (of_decide_eq_true (by kernel_rfl)) (by unfold Func.isWrapper; first | (rw [if_pos (by decide +kernel)]; kernel_rfl) | (rw [if_neg (by decide +kernel)]; exact ⟨rfl, rfl⟩))
    (fun os started H enc _ => lifted os started H enc)

/-- the given statement: the card -/
theorem proved : Rows.UtfBackCardSaid :=
  Claim7.holds_tied_plain_at .later [] [.data, .data] true (true, "8d6e73788167e2eb6fee37b266e35e402d40bbf6aa90e2d0210f42c6b14e2852") false
    over (fun _ h => by cases h) (by kernel_rfl) (fun _ h => by cases h) utfBack_row_tie rfl ⟨rfl, rfl⟩ (by kernel_rfl) rfl
    (fun f fn hf hfn => by
      obtain rfl : f = 6 := Option.some.inj ((show Tryd.prog.funcNamed "haulage/haulagelaw03.UtfBack" = some 6 by kernel_rfl).symm.trans hf) |>.symm
      obtain rfl : fn = Tryd.f6 := (Option.some.inj (Tryd.func6.symm.trans hfn)).symm
      exact ⟨by kernel_rfl, fun j t ht => by
        rw [Tryd.params6] at ht
        have hm : t ∈ [3, 9] := by simpa using Array.mem_of_getElem? ht
        have hall : ([3, 9].all fun u => !Tryd.prog.wantsStandIn u) = true := by kernel_rfl
        exact (show Tryd.prog.wantsStandIn t = false by simpa using List.all_eq_true.1 hall t hm)⟩)
    (by kernel_rfl)
#print axioms proved
end Go.Proofs.YtmfaeahpcoonaaaDoor.utfBack
