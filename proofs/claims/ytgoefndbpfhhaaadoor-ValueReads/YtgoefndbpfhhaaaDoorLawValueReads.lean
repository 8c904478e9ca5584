/-
  ValueReads: for every string the law returns true: the value that it begins with, and the one that it is, or why there is none, is what the page says. No condition but that the two tables of package utf read as the program's text lays them (tied by the card).
-/
import Derived.Test.YtgoefndbpfhhaaaDoorValLivesC
import Derived.Test.YtgoefndbpfhhaaaDoorValRefParseC
import Derived.Test.YtgoefndbpfhhaaaDoorTie
import Derived.Test.YtgoefndbpfhhaaaDoorCards
import Derived.ProofKit
import Derived.OpenShut
import Derived.ShutString
import Derived.ChangeOld
import Derived.LaidMore
import Derived.SevenTiedAt
namespace Go.Proofs.YtgoefndbpfhhaaaDoor.valueReads
open Go.ChangeShapes Go.WideShapes Go.ChangeAt Go.RowKit
open Go.ChangeMaps (open_string shut_string)

theorem same_val (k n : Int) (s : ByteArray) : (k == k) = true ∧ (n == n) = true ∧ (s.toList == s.toList) = true := by simp
set_option maxRecDepth 100000 in
set_option maxHeartbeats 800000 in
theorem walk_t (s : ByteArray) (w : World) (hs : s.size ≤ maxLen) (ht : UTab w) :
    Calls Tryd.prog 7 #[.string s] w fun e w' => e = .returned (.bool true) ∧ Below w.heap.size w w' := by
  unfold maxLen at hs
  have HT := Lib.hid ht; clear ht
  by_cases h : 400 < s.size
  · have hd : decide (400 < (s.size : Int)) = true := by simp; omega
    go_enter Tryd.func7, Tryd.ntmps7
    go_wp2_with (go_at_call 9; refine (lives5_any _ HT.out).mono ?_; rintro e w1 ⟨rfl, hb1⟩)
    go_ret
    exact ⟨rfl, hb1⟩
  have hd : decide (400 < (s.size : Int)) = false := by simp; omega
  have H1 := Lib.hid (fun w h => vread_any s w h (by omega))
  have H2 := Lib.hid (fun w => vrread_any s w (by omega))
  have H3 := Lib.hid (fun w h => vparse_any s w h (by omega))
  have H4 := Lib.hid (fun w => vrparse_any s w (by omega))
  obtain ⟨⟨⟨rk, rn, rt⟩, rm, re⟩, hr⟩ : ∃ r, readW (bs s) = r := ⟨_, rfl⟩
  rw [resV_eq hr] at H1 H2
  obtain ⟨⟨⟨pk, pn, pt⟩, pe⟩, hp⟩ : ∃ r, parseW (bs s) = r := ⟨_, rfl⟩
  rw [parV_eq hp] at H3 H4
  clear hr hp
  generalize (⟨rt.toArray⟩ : ByteArray) = rs at H1 H2
  generalize (⟨pt.toArray⟩ : ByteArray) = ps at H3 H4
  go_enter Tryd.func7, Tryd.ntmps7
  go_wp2_with fail
  refine (lives5_any _ HT.out).mono ?_
  rintro e w1 ⟨rfl, hb1⟩
  have HT1 := Lib.hid (HT.out.below hb1 (Nat.le_refl _))
  go_wp2_with fail
  refine (H1.out _ HT1.out).mono ?_
  rintro e w2 ⟨rfl, hb2⟩
  have hb2' := hb1.trans (hb2.mono hb1.size)
  clear hb1 hb2 HT1
  go_wp2_with fail
  refine (H2.out _).mono ?_
  rintro e w3 ⟨rfl, hb3⟩
  have HA3 := Lib.hid ((Blk3.new w2 _ _ _ _).below hb3 (by simp))
  have l23 := new_lt hb3
  have hb3' := hb2'.trans ((below_new hb3).mono hb2'.size)
  clear hb2' hb3
  have HT3 := Lib.hid (HT.out.below hb3' (Nat.le_refl _))
  go_wp2_with fail
  refine (H3.out _ (HT3.out.alloc _)).mono ?_
  rintro e w4 ⟨rfl, hb4⟩
  have HA4 := Lib.hid ((HA3.out.alloc l23 _).below hb4 (by simp; omega))
  have HC4 := Lib.hid ((Blk3.new w3 _ _ _ _).below hb4 (by simp))
  have l34 := new_lt hb4
  have hb4' := hb3'.trans ((below_new hb4).mono hb3'.size)
  clear HA3 hb3' hb4 HT3
  go_wp2_with fail
  refine (H4.out _).mono ?_
  rintro e w5 ⟨rfl, hb5⟩
  have HA5 := Lib.hid ((HA4.out.alloc (by omega) _).below hb5 (by simp; omega))
  have HC5 := Lib.hid ((HC4.out.alloc l34 _).below hb5 (by simp; omega))
  have HE5 := Lib.hid ((Blk3.new w4 _ _ _ _).below hb5 (by simp))
  have l45 := new_lt hb5
  have hb5' := hb4'.trans ((below_new hb5).mono hb4'.size)
  have hs5 := hb5'.size
  clear HA4 HC4 hb4' hb5
  obtain ⟨c0, c1, c2, _, _, _⟩ := HA5.out
  obtain ⟨d0, d1, d2, _, _, _⟩ := HC5.out
  obtain ⟨e0, e1, e2, _, _, _⟩ := HE5.out
  have l25 : w2.heap.size < w5.heap.size := by omega
  have l35 : w3.heap.size < w5.heap.size := by omega
  go_wp2_with fail
  go_ret
  exact ⟨rfl, by go_grown⟩

theorem walk (s : ByteArray) (w : World) (hs : s.size ≤ maxLen) (hL : laidMetH Tryd.prog Rows.valueReadsRow.laid w) :
    Calls Tryd.prog 7 #[.string s] w fun e w' => e = .returned (.bool true) ∧ Below w.heap.size w w' :=
  walk_t s w hs (utab_of (by kernel_rfl) (by repeat (first | exact List.Mem.head _ | apply List.Mem.tail)) (by repeat (first | exact List.Mem.head _ | apply List.Mem.tail)) hL)

theorem own : ownKnob Tryd.prog.godebug = none := by kernel_rfl
theorem laidOut : laidOutB Tryd.prog = true := by kernel_rfl
theorem door_met (os : Os) (args : Array Value) : laidMetH Tryd.prog Rows.valueReadsRow.laid ((World.doorLaid Tryd.prog 19 os).forCall (fun _ _ => 0) ⟨#[], args, []⟩).memory :=
  laidMetH_of_parts3 (fuel := 8) (laidMet_of_run' 8 (by kernel_rfl) (by kernel_rfl)) (by kernel_rfl) (by kernel_rfl)
set_option maxRecDepth 100000 in
theorem lifted (os : Os) (started : os.Started) (H : Type) (enc : TypeId × Value → H) :
    ReturnsInHanded {} Tryd.checked os 7 .any (fun w args => (Rows.valueReadsSpec.pre enc Tryd.prog Tryd.f7 [] false w args ∧ laidMetH Tryd.prog Rows.valueReadsRow.laid w) ∧ sizedMet enc Tryd.prog Tryd.f7 (OpenSpec.ofChange Rows.valueReadsSpec) false w args)
      (Rows.valueReadsSpec.post enc Tryd.prog Tryd.f7 false true false false) := by
  refine returnsInHanded_of_change_and (C := Tryd.checked) (X := fun w _ => laidMetH Tryd.prog Rows.valueReadsRow.laid w) (fun _ _ _ hh h => h.of_heap hh) own started (by kernel_rfl) Tryd.func7
    (ChangeSpec.witness_shaped (enc := enc) (C := Tryd.checked) (os := os) (X := fun w _ => laidMetH Tryd.prog Rows.valueReadsRow.laid w) false (World.doorLaid Tryd.prog 19 os) #[.string ByteArray.empty] 8 rfl (World.shaped_of_RefB (by kernel_rfl) (by kernel_rfl)) (by kernel_rfl) (by kernel_rfl) (by kernel_rfl) (door_met os _)) ?_
  intro W base args ds gs before hval0 hW hcnd _ hL _
  have hval : ∀ (j : Nat) t v, Tryd.f7.params[j]? = some t → args[j]? = some v → Value.okWide Tryd.prog W .any base t v := hval0
  have hW' := hW
  obtain ⟨p, q, hA0, hV, rfl, hfz, hnd⟩ := hW
  have hA : DataW.TrodAll enc Tryd.prog W 0 (fun _ => true) true Tryd.f7.params.toList args.toList ds p := hA0
  rw [Tryd.params7] at hA hval
  obtain ⟨v0, vs0, d0, ds0, p0, q0, hargs, rfl, rfl, h0, r0⟩ := trodAll_cons hA
  obtain ⟨rfl, rfl, rfl⟩ := trodAll_nil r0
  obtain rfl : args = #[v0] := by cases args; simp_all
  obtain ⟨rfl, rfl⟩ := trodVars_none hV
  obtain ⟨a0, rfl, rfl, rfl, w0⟩ := open_string Tryd.underlying9 (hval 0 9 v0 rfl rfl) h0
  clear hA0 hval0
  refine (walk a0 W w0 hL).mono fun e W' ⟨he, bel⟩ => ?_
  subst he
  exact ⟨_, rfl, _, _, _, [], _, [], hW', trodAll_mk1 (shut_bool Tryd.underlying4 _), (trodAll_cons_mk (shut_string Tryd.underlying9 w0) trodAll_mk0), rfl, bel.frame _, fun h => by cases h⟩

theorem over : Rows.ValueReadsSaid :=
  OpenClaim.holds_of_wide 7 Tryd.f7 rfl rfl rfl rfl rfl rfl rfl ⟨rfl, rfl, rfl, rfl, rfl⟩ rfl rfl rfl rfl rfl (by kernel_rfl) Tryd.func7 (by kernel_rfl)
    (of_decide_eq_true (by kernel_rfl)) (by unfold Func.isWrapper; first | (rw [if_pos (by decide +kernel)]; kernel_rfl) | (rw [if_neg (by decide +kernel)]; exact ⟨rfl, rfl⟩))
    (fun os started H enc _ => lifted os started H enc)

/-- the given statement: the card -/
theorem proved : Rows.ValueReadsCardSaid :=
  Claim7.holds_tied_plain_at .later [] [.data, .data] true (true, "86fb4d4ad1f2a2f64c36b279aa252757f7e24e1800983a66bf99dcb451f8f800") false
    over (fun _ h => by cases h) (by kernel_rfl) (fun _ h => by cases h) valueReads_row_tie rfl ⟨rfl, rfl⟩ (by kernel_rfl) rfl
    (fun f fn hf hfn => by
      obtain rfl : f = 7 := Option.some.inj ((show Tryd.prog.funcNamed "haulage/haulagelaw05.ValueReads" = some 7 by kernel_rfl).symm.trans hf) |>.symm
      obtain rfl : fn = Tryd.f7 := (Option.some.inj (Tryd.func7.symm.trans hfn)).symm
      exact ⟨by kernel_rfl, fun j t ht => by
        rw [Tryd.params7] at ht
        have hm : t ∈ [9] := by simpa using Array.mem_of_getElem? ht
        have hall : ([9].all fun u => !Tryd.prog.wantsStandIn u) = true := by kernel_rfl
        exact (show Tryd.prog.wantsStandIn t = false by simpa using List.all_eq_true.1 hall t hm)⟩)
    (by kernel_rfl)
#print axioms proved
end Go.Proofs.YtgoefndbpfhhaaaDoor.valueReads
