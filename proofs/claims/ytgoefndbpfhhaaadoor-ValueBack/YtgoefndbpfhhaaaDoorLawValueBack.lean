/-
  ValueBack: for every value and every string the law returns true: what is written is parsed as it was, and read with a blank, and anything, behind it; whatever is parsed is valid, and written just so. No condition but that the two tables of package utf read as the program's text lays them (tied by the card).
-/
import Derived.Test.YtgoefndbpfhhaaaDoorValLivesC
import Derived.Test.YtgoefndbpfhhaaaDoorValPrintC
import Derived.Test.YtgoefndbpfhhaaaDoorValOpen
import Derived.Test.YtgoefndbpfhhaaaDoorTie
import Derived.Test.YtgoefndbpfhhaaaDoorCards
import Derived.ProofKit
import Derived.OpenShut
import Derived.ShutString
import Derived.ChangeOld
import Derived.LaidMore
import Derived.SevenTiedAt
namespace Go.Proofs.YtgoefndbpfhhaaaDoor.valueBack
open Go.ChangeShapes Go.WideShapes Go.ChangeAt Go.RowKit
open Go.ChangeMaps (open_string shut_string)

theorem prW_len (k n : Int) (l : List UInt8) (h1 : -9223372036854775808 ≤ n) (h2 : n < 9223372036854775808) : (prW k n l).length ≤ 4 * l.length + 25 := by
  have hd := dz_len n h1 h2
  have hq := qb_len l
  have hx := hxs_len l
  unfold prW
  split
  · omega
  · split
    · simp; omega
    · split
      · rw [qt_len]; omega
      · split
        · simp; omega
        · simp [nullT]
theorem right_len {k n : Int} {l : List UInt8} (h : rightV k n l = true) : l.length ≤ 120 := by
  rcases rightV_cases k n l with ⟨_, hv⟩ | ⟨_, hv⟩ | ⟨_, hv⟩ | ⟨_, hv⟩ | ⟨_, hv⟩ | ⟨_, _, _, _, _, hv⟩
  all_goals rw [h] at hv
  · have := of_decide_eq_true (Bool.and_eq_true_iff.1 hv.symm).2; rw [this]; simp
  · have := of_decide_eq_true (Bool.and_eq_true_iff.1 hv.symm).2; rw [this]; simp
  · have := of_decide_eq_true hv.symm; rw [this]; simp
  · exact of_decide_eq_true (Bool.and_eq_true_iff.1 (Bool.and_eq_true_iff.1 hv.symm).1).2
  · exact of_decide_eq_true (Bool.and_eq_true_iff.1 hv.symm).2
  · cases hv
/-- how a string is parsed: not at all, or as a value that is valid and whose text it is -/
theorem parse_ways (S : ByteArray) (hS : S.size ≤ 1000000) :
    (∃ pe : Nat, ((pe : Int) != 0) = true ∧ Hid (∀ w, UTab w → Calls Tryd.prog 28 #[.string S] w fun e w' => e = .returned (.tuple #[VV 0 0 ⟨#[]⟩, .int .i64 (pe : Nat)]) ∧ Below w.heap.size w w')) ∨
    ∃ (pk pn : Int) (ps : ByteArray), Hid (∀ w, UTab w → Calls Tryd.prog 28 #[.string S] w fun e w' => e = .returned (.tuple #[VV pk pn ps, .int .i64 0]) ∧ Below w.heap.size w w') ∧
      Hid (∀ w, UTab w → Calls Tryd.prog 24 #[VV pk pn ps] w fun e w' => e = .returned (.tuple #[.string S, .int .i64 0]) ∧ Below w.heap.size w w') ∧
      Hid (∀ w, UTab w → Calls Tryd.prog 13 #[VV pk pn ps] w fun e w' => e = .returned (.bool true) ∧ Below w.heap.size w w') := by
  obtain ⟨⟨⟨pk, pn, pt⟩, pe⟩, hp⟩ : ∃ r, parseW (bs S) = r := ⟨_, rfl⟩
  have H := fun w h => vparse_any S w h hS
  rw [parV_eq hp] at H
  by_cases he : pe = 0
  · subst he
    obtain ⟨h1, h2, h3, h4⟩ := parse_back hp
    have hb : bs (⟨pt.toArray⟩ : ByteArray) = pt := bs_mk pt
    have hl := right_len h1
    refine .inr ⟨pk, pn, ⟨pt.toArray⟩, H, fun w h => ?_, fun w h => ?_⟩
    · have := vprint_yes pk pn ⟨pt.toArray⟩ w h h3 h4 (by rw [ba_size]; omega) (by rw [hb]; exact h1)
      rw [hb, h2] at this
      exact this
    · have := vright_any pk pn ⟨pt.toArray⟩ w h
      rw [hb, h1] at this
      exact this
  · have hz := parse_err hp he
    simp only [Prod.mk.injEq] at hz
    obtain ⟨rfl, rfl, rfl⟩ := hz
    exact .inl ⟨pe, by simp; omega, H⟩

set_option maxRecDepth 100000 in
set_option maxHeartbeats 3200000 in
theorem walk_t (k n : Int) (s S : ByteArray) (w : World) (h1 : -9223372036854775808 ≤ n) (h2 : n < 9223372036854775808) (hs : s.size ≤ maxLen) (hS0 : S.size ≤ maxLen) (ht : UTab w) :
    Calls Tryd.prog 8 #[VV k n s, .string S] w fun e w' => e = .returned (.bool true) ∧ Below w.heap.size w w' := by
  unfold maxLen at hs hS0
  have HT := Lib.hid ht; clear ht
  by_cases h : 200 < s.size
  · have hd : decide (200 < (s.size : Int)) = true := by simp; omega
    go_enter Tryd.func8, Tryd.ntmps8
    go_wp2_with fail
    refine (lives5_any _ (HT.out.alloc _)).mono ?_
    rintro e w1 ⟨rfl, hb1⟩
    have HB := Lib.hid ((Blk3.new w _ _ _ _).below hb1 (by simp))
    obtain ⟨c0, c1, c2, f0, f1, f2⟩ := HB.out
    have hb' := below_new hb1
    clear hb1
    go_wp2_with fail
    go_ret
    exact ⟨rfl, hb'⟩
  have hd : decide (200 < (s.size : Int)) = false := by simp; omega
  by_cases h3 : 400 < S.size
  · have hd2 : decide (400 < (S.size : Int)) = true := by simp; omega
    go_enter Tryd.func8, Tryd.ntmps8
    go_wp2_with fail
    refine (lives5_any _ (HT.out.alloc _)).mono ?_
    rintro e w1 ⟨rfl, hb1⟩
    have HB := Lib.hid ((Blk3.new w _ _ _ _).below hb1 (by simp))
    obtain ⟨c0, c1, c2, f0, f1, f2⟩ := HB.out
    have hb' := below_new hb1
    clear hb1
    go_wp2_with fail
    go_ret
    exact ⟨rfl, hb'⟩
  have hd2 : decide (400 < (S.size : Int)) = false := by simp; omega
  have hS := parse_ways S (by omega)
  cases hr : rightV k n (bs s)
  · skip
    have HP := Lib.hid (fun w h => vprint_no k n s w h hr)
    clear hr
    rcases hS with ⟨pe, hpe, H3⟩ | ⟨pk, pn, ps, H3, HPr, HRi⟩
    · skip
      go_enter Tryd.func8, Tryd.ntmps8
      go_wp2_with fail
      refine (lives5_any _ (HT.out.alloc _)).mono ?_
      rintro e w1 ⟨rfl, hb1⟩
      have HB := Lib.hid ((Blk3.new w _ _ _ _).below hb1 (by simp))
      obtain ⟨c0, c1, c2, _, _, _⟩ := HB.out
      have hlt := new_lt hb1
      have hb' := below_new hb1
      clear hb1
      go_wp2_with fail
      refine (HP.out _ (HT.out.below hb' (Nat.le_refl _))).mono ?_
      rintro e w2 ⟨rfl, hb2⟩
      have HB2 := Lib.hid (HB.out.below hb2 hlt)
      have hlt2 : w.heap.size < w2.heap.size := by have := hb2.size; omega
      have hb2' := hb'.trans (hb2.mono (Nat.le_of_lt hlt))
      clear c0 c1 c2 hb' hb2 HB
      have HTA := Lib.hid (HT.out.below hb2' (Nat.le_refl _))
      have hbA := hb2'
      clear hb2' HB2
      go_wp2_with fail
      refine (H3.out _ HTA.out).mono ?_
      rintro e w5 ⟨rfl, hb5⟩
      have hb5' := hbA.trans (hb5.mono hbA.size)
      clear hb5 hbA HTA
      have hs5 := hb5'.size
      go_wp2_with fail
      go_ret
      exact ⟨rfl, by go_grown⟩
    · skip
      go_enter Tryd.func8, Tryd.ntmps8
      go_wp2_with fail
      refine (lives5_any _ (HT.out.alloc _)).mono ?_
      rintro e w1 ⟨rfl, hb1⟩
      have HB := Lib.hid ((Blk3.new w _ _ _ _).below hb1 (by simp))
      obtain ⟨c0, c1, c2, _, _, _⟩ := HB.out
      have hlt := new_lt hb1
      have hb' := below_new hb1
      clear hb1
      go_wp2_with fail
      refine (HP.out _ (HT.out.below hb' (Nat.le_refl _))).mono ?_
      rintro e w2 ⟨rfl, hb2⟩
      have HB2 := Lib.hid (HB.out.below hb2 hlt)
      have hlt2 : w.heap.size < w2.heap.size := by have := hb2.size; omega
      have hb2' := hb'.trans (hb2.mono (Nat.le_of_lt hlt))
      clear c0 c1 c2 hb' hb2 HB
      have HTA := Lib.hid (HT.out.below hb2' (Nat.le_refl _))
      have hbA := hb2'
      clear hb2' HB2
      go_wp2_with fail
      refine (H3.out _ HTA.out).mono ?_
      rintro e w5 ⟨rfl, hb5⟩
      have hb5' := hbA.trans (hb5.mono hbA.size)
      clear hb5 hbA HTA
      have HT5 := Lib.hid (HT.out.below hb5' (Nat.le_refl _))
      have hs5 := hb5'.size
      go_wp2_with fail
      refine (HPr.out _ (HT5.out.alloc _)).mono ?_
      rintro e w6 ⟨rfl, hb6⟩
      have HW6 := Lib.hid ((Blk3.new w5 _ _ _ _).below hb6 (by simp))
      have hlt6 := new_lt hb6
      have hb6' := hb5'.trans ((below_new hb6).mono hs5)
      clear hb5' hb6
      obtain ⟨c0, c1, c2, _, _, _⟩ := HW6.out
      go_wp2_with fail
      refine (HRi.out _ (HT.out.below hb6' (Nat.le_refl _))).mono ?_
      rintro e w7 ⟨rfl, hb7⟩
      have hb7' := hb6'.trans (hb7.mono hb6'.size)
      go_wp2_with fail
      go_ret
      exact ⟨rfl, hb7'⟩
  · skip
    have HP := Lib.hid (fun w h => vprint_yes k n s w h h1 h2 (by omega) hr)
    have hXl := prW_len k n (bs s) h1 h2
    rw [bs_length] at hXl
    have hX : (⟨(prW k n (bs s)).toArray⟩ : ByteArray).size = (prW k n (bs s)).length := ba_size _
    have HPar : Hid (∀ w, UTab w → Calls Tryd.prog 28 #[.string ⟨(prW k n (bs s)).toArray⟩] w fun e w' => e = .returned (.tuple #[VV k n s, .int .i64 0]) ∧ Below w.heap.size w w') := fun w h => by
      have := vparse_any ⟨(prW k n (bs s)).toArray⟩ w h (by rw [hX]; omega)
      rw [bs_mk (prW k n (bs s)), print_parse hr h1 h2] at this
      exact this
    have hS : (⟨(prW k n (bs s)).toArray⟩ ++ ⟨#[32]⟩ ++ S : ByteArray).size = (prW k n (bs s)).length + 1 + S.size := by rw [ByteArray.size_append, ByteArray.size_append, hX]; rfl
    have HRd : Hid (∀ w, UTab w → Calls Tryd.prog 26 #[.string (⟨(prW k n (bs s)).toArray⟩ ++ ⟨#[32]⟩ ++ S)] w fun e w' => e = .returned (.tuple #[VV k n s, .int .i64 ((prW k n (bs s)).length : Nat), .int .i64 0]) ∧ Below w.heap.size w w') := fun w h => by
      have := vread_any (⟨(prW k n (bs s)).toArray⟩ ++ ⟨#[32]⟩ ++ S) w h (by rw [hS]; omega)
      rw [bs_append, bs_append, bs_mk (prW k n (bs s)), show bs (⟨#[32]⟩ : ByteArray) = [32] from rfl, List.append_assoc, print_read hr h1 h2 (.inr rfl)] at this
      exact this
    rw [← hX] at HRd hXl
    clear hX hS hr
    generalize (⟨(prW k n (bs s)).toArray⟩ : ByteArray) = X at HP HPar HRd hXl
    have hXb : (X ++ ⟨#[32]⟩ : ByteArray).size = X.size + 1 := ByteArray.size_append
    have hadd := fun w' => run_string_add_sum (P := Tryd.prog) (w := w') X ⟨#[32]⟩ (by show X.size + 1 ≤ _; omega)
    have hadd2 := fun w' => run_string_add_sum (P := Tryd.prog) (w := w') (X ++ ⟨#[32]⟩) S (by rw [hXb]; omega)
    clear hXb
    rcases hS with ⟨pe, hpe, H3⟩ | ⟨pk, pn, ps, H3, HPr, HRi⟩
    · skip
      go_enter Tryd.func8, Tryd.ntmps8
      go_wp2_with fail
      refine (lives5_any _ (HT.out.alloc _)).mono ?_
      rintro e w1 ⟨rfl, hb1⟩
      have HB := Lib.hid ((Blk3.new w _ _ _ _).below hb1 (by simp))
      obtain ⟨c0, c1, c2, _, _, _⟩ := HB.out
      have hlt := new_lt hb1
      have hb' := below_new hb1
      clear hb1
      go_wp2_with fail
      refine (HP.out _ (HT.out.below hb' (Nat.le_refl _))).mono ?_
      rintro e w2 ⟨rfl, hb2⟩
      have HB2 := Lib.hid (HB.out.below hb2 hlt)
      have hlt2 : w.heap.size < w2.heap.size := by have := hb2.size; omega
      have hb2' := hb'.trans (hb2.mono (Nat.le_of_lt hlt))
      clear c0 c1 c2 hb' hb2 HB
      go_wp2_with fail
      refine (HPar.out _ (HT.out.below hb2' (Nat.le_refl _))).mono ?_
      rintro e w3 ⟨rfl, hb3⟩
      have HB3 := Lib.hid (HB2.out.below hb3 hlt2)
      have hlt3 : w.heap.size < w3.heap.size := by have := hb3.size; omega
      have hb3' := hb2'.trans (hb3.mono (Nat.le_of_lt hlt2))
      clear hb2' hb3 HB2
      go_wp2_with fail
      refine (HRd.out _ ((HT.out.below hb3' (Nat.le_refl _)).alloc _)).mono ?_
      rintro e w4 ⟨rfl, hb4⟩
      have HB4 := Lib.hid ((HB3.out.alloc hlt3 _).below hb4 (by simp; omega))
      have HC4 := Lib.hid ((Blk3.new w3 _ _ _ _).below hb4 (by simp))
      have hlt4 := new_lt hb4
      have hb4' := hb3'.trans ((below_new hb4).mono hb3'.size)
      clear hb3' hb4 HB3
      obtain ⟨c0, c1, c2, _, _, _⟩ := HB4.out
      obtain ⟨d0, d1, d2, _, _, _⟩ := HC4.out
      have hlt5 : w.heap.size < w4.heap.size := by omega
      go_wp2_with fail
      refine (H3.out _ ((HT.out.below hb4' (Nat.le_refl _)).alloc _)).mono ?_
      rintro e w5 ⟨rfl, hb5⟩
      have hb5' := hb4'.trans ((below_new hb5).mono hb4'.size)
      clear hb4' hb5 c0 c1 c2 d0 d1 d2
      have hs5 := hb5'.size
      go_wp2_with fail
      go_ret
      exact ⟨rfl, by go_grown⟩
    · skip
      go_enter Tryd.func8, Tryd.ntmps8
      go_wp2_with fail
      refine (lives5_any _ (HT.out.alloc _)).mono ?_
      rintro e w1 ⟨rfl, hb1⟩
      have HB := Lib.hid ((Blk3.new w _ _ _ _).below hb1 (by simp))
      obtain ⟨c0, c1, c2, _, _, _⟩ := HB.out
      have hlt := new_lt hb1
      have hb' := below_new hb1
      clear hb1
      go_wp2_with fail
      refine (HP.out _ (HT.out.below hb' (Nat.le_refl _))).mono ?_
      rintro e w2 ⟨rfl, hb2⟩
      have HB2 := Lib.hid (HB.out.below hb2 hlt)
      have hlt2 : w.heap.size < w2.heap.size := by have := hb2.size; omega
      have hb2' := hb'.trans (hb2.mono (Nat.le_of_lt hlt))
      clear c0 c1 c2 hb' hb2 HB
      go_wp2_with fail
      refine (HPar.out _ (HT.out.below hb2' (Nat.le_refl _))).mono ?_
      rintro e w3 ⟨rfl, hb3⟩
      have HB3 := Lib.hid (HB2.out.below hb3 hlt2)
      have hlt3 : w.heap.size < w3.heap.size := by have := hb3.size; omega
      have hb3' := hb2'.trans (hb3.mono (Nat.le_of_lt hlt2))
      clear hb2' hb3 HB2
      go_wp2_with fail
      refine (HRd.out _ ((HT.out.below hb3' (Nat.le_refl _)).alloc _)).mono ?_
      rintro e w4 ⟨rfl, hb4⟩
      have HB4 := Lib.hid ((HB3.out.alloc hlt3 _).below hb4 (by simp; omega))
      have HC4 := Lib.hid ((Blk3.new w3 _ _ _ _).below hb4 (by simp))
      have hlt4 := new_lt hb4
      have hb4' := hb3'.trans ((below_new hb4).mono hb3'.size)
      clear hb3' hb4 HB3
      obtain ⟨c0, c1, c2, _, _, _⟩ := HB4.out
      obtain ⟨d0, d1, d2, _, _, _⟩ := HC4.out
      have hlt5 : w.heap.size < w4.heap.size := by omega
      go_wp2_with fail
      refine (H3.out _ ((HT.out.below hb4' (Nat.le_refl _)).alloc _)).mono ?_
      rintro e w5 ⟨rfl, hb5⟩
      have hb5' := hb4'.trans ((below_new hb5).mono hb4'.size)
      clear hb4' hb5 c0 c1 c2 d0 d1 d2
      have HT5 := Lib.hid (HT.out.below hb5' (Nat.le_refl _))
      have hs5 := hb5'.size
      go_wp2_with fail
      refine (HPr.out _ (HT5.out.alloc _)).mono ?_
      rintro e w6 ⟨rfl, hb6⟩
      have HW6 := Lib.hid ((Blk3.new w5 _ _ _ _).below hb6 (by simp))
      have hlt6 := new_lt hb6
      have hb6' := hb5'.trans ((below_new hb6).mono hs5)
      clear hb5' hb6
      obtain ⟨c0, c1, c2, _, _, _⟩ := HW6.out
      go_wp2_with fail
      refine (HRi.out _ (HT.out.below hb6' (Nat.le_refl _))).mono ?_
      rintro e w7 ⟨rfl, hb7⟩
      have hb7' := hb6'.trans (hb7.mono hb6'.size)
      go_wp2_with fail
      go_ret
      exact ⟨rfl, hb7'⟩

theorem walk (k n : Int) (s S : ByteArray) (w : World) (_ : (Lit.int .i64 k).wf = true) (hn : (Lit.int .i64 n).wf = true) (hs : s.size ≤ maxLen) (hS : S.size ≤ maxLen) (hL : laidMetH Tryd.prog Rows.valueBackRow.laid w) :
    Calls Tryd.prog 8 #[VV k n s, .string S] w fun e w' => e = .returned (.bool true) ∧ Below w.heap.size w w' :=
  walk_t k n s S w (wf64 hn).1 (wf64 hn).2 hs hS (utab_of (by kernel_rfl) (by repeat (first | exact List.Mem.head _ | apply List.Mem.tail)) (by repeat (first | exact List.Mem.head _ | apply List.Mem.tail)) hL)

theorem own : ownKnob Tryd.prog.godebug = none := by kernel_rfl
theorem laidOut : laidOutB Tryd.prog = true := by kernel_rfl
theorem door_met (os : Os) (args : Array Value) : laidMetH Tryd.prog Rows.valueBackRow.laid ((World.doorLaid Tryd.prog 19 os).forCall (fun _ _ => 0) ⟨#[], args, []⟩).memory :=
  laidMetH_of_parts3 (fuel := 8) (laidMet_of_run' 8 (by kernel_rfl) (by kernel_rfl)) (by kernel_rfl) (by kernel_rfl)
set_option maxRecDepth 100000 in
theorem lifted (os : Os) (started : os.Started) (H : Type) (enc : TypeId × Value → H) :
    ReturnsInHanded {} Tryd.checked os 8 .any (fun w args => (Rows.valueBackSpec.pre enc Tryd.prog Tryd.f8 [] false w args ∧ laidMetH Tryd.prog Rows.valueBackRow.laid w) ∧ sizedMet enc Tryd.prog Tryd.f8 (OpenSpec.ofChange Rows.valueBackSpec) false w args)
      (Rows.valueBackSpec.post enc Tryd.prog Tryd.f8 false true false false) := by
  refine returnsInHanded_of_change_and (C := Tryd.checked) (X := fun w _ => laidMetH Tryd.prog Rows.valueBackRow.laid w) (fun _ _ _ hh h => h.of_heap hh) own started (by kernel_rfl) Tryd.func8
    (ChangeSpec.witness_shaped (enc := enc) (C := Tryd.checked) (os := os) (X := fun w _ => laidMetH Tryd.prog Rows.valueBackRow.laid w) false (World.doorLaid Tryd.prog 19 os) #[.agg #[.int .i64 0, .int .i64 0, .string ByteArray.empty], .string ByteArray.empty] 8 rfl (World.shaped_of_RefB (by kernel_rfl) (by kernel_rfl)) (by kernel_rfl) (by kernel_rfl) (by kernel_rfl) (door_met os _)) ?_
  intro W base args ds gs before hval0 hW hcnd _ hL _
  have hval : ∀ (j : Nat) t v, Tryd.f8.params[j]? = some t → args[j]? = some v → Value.okWide Tryd.prog W .any base t v := hval0
  have hW' := hW
  obtain ⟨p, q, hA0, hV, rfl, hfz, hnd⟩ := hW
  have hA : DataW.TrodAll enc Tryd.prog W 0 (fun _ => true) true Tryd.f8.params.toList args.toList ds p := hA0
  rw [Tryd.params8] at hA hval
  obtain ⟨v0, vs0, d0, ds0, p0, q0, hargs, rfl, rfl, h0, r0⟩ := trodAll_cons hA
  obtain ⟨v1, vs1, d1, ds1, p1, q1, rfl, rfl, rfl, h1, r1⟩ := trodAll_cons r0
  obtain ⟨rfl, rfl, rfl⟩ := trodAll_nil r1
  obtain rfl : args = #[v0, v1] := by cases args; simp_all
  obtain ⟨rfl, rfl⟩ := trodVars_none hV
  obtain ⟨a0k, a0n, a0s, rfl, rfl, rfl, w0k, w0n, w0s⟩ := openV (hval 0 23 v0 rfl rfl) h0
  obtain ⟨a1, rfl, rfl, rfl, w1⟩ := open_string Tryd.underlying9 (hval 1 9 v1 rfl rfl) h1
  clear hA0 hval0
  refine (walk a0k a0n a0s a1 W w0k w0n w0s w1 hL).mono fun e W' ⟨he, bel⟩ => ?_
  subst he
  exact ⟨_, rfl, _, _, _, [], _, [], hW', trodAll_mk1 (shut_bool Tryd.underlying4 _), (trodAll_cons_mk (shutV _ _ w0k w0n w0s) (trodAll_cons_mk (shut_string Tryd.underlying9 w1) trodAll_mk0)), rfl, bel.frame _, fun h => by cases h⟩

theorem over : Rows.ValueBackSaid :=
  OpenClaim.holds_of_wide 8 Tryd.f8 rfl rfl rfl rfl rfl rfl rfl ⟨rfl, rfl, rfl, rfl, rfl⟩ rfl rfl rfl rfl rfl (by kernel_rfl) Tryd.func8 (by kernel_rfl)
    (of_decide_eq_true (by kernel_rfl)) (by unfold Func.isWrapper; first | (rw [if_pos (by decide +kernel)]; kernel_rfl) | (rw [if_neg (by decide +kernel)]; exact ⟨rfl, rfl⟩))
    (fun os started H enc _ => lifted os started H enc)

/-- the given statement: the card -/
theorem proved : Rows.ValueBackCardSaid :=
  Claim7.holds_tied_plain_at .later [] [.data, .data] true (true, "86fb4d4ad1f2a2f64c36b279aa252757f7e24e1800983a66bf99dcb451f8f800") false
    over (fun _ h => by cases h) (by kernel_rfl) (fun _ h => by cases h) valueBack_row_tie rfl ⟨rfl, rfl⟩ (by kernel_rfl) rfl
    (fun f fn hf hfn => by
      obtain rfl : f = 8 := Option.some.inj ((show Tryd.prog.funcNamed "haulage/haulagelaw05.ValueBack" = some 8 by kernel_rfl).symm.trans hf) |>.symm
      obtain rfl : fn = Tryd.f8 := (Option.some.inj (Tryd.func8.symm.trans hfn)).symm
      exact ⟨by kernel_rfl, fun j t ht => by
        rw [Tryd.params8] at ht
        have hm : t ∈ [23, 9] := by simpa using Array.mem_of_getElem? ht
        have hall : ([23, 9].all fun u => !Tryd.prog.wantsStandIn u) = true := by kernel_rfl
        exact (show Tryd.prog.wantsStandIn t = false by simpa using List.all_eq_true.1 hall t hm)⟩)
    (by kernel_rfl)
#print axioms proved
end Go.Proofs.YtgoefndbpfhhaaaDoor.valueBack
