/-
  SortkeyReads: for every string the law returns true: the value of the key that it begins with, and all values that it is, or why there are none, are what the page says. No condition but that the two tables of package utf read as the program's text lays them (tied by the card).
-/
import Derived.Test.YtbbdmphclnnejaaDoorSkLivesC
import Derived.Test.YtbbdmphclnnejaaDoorSkRefAllC
import Derived.Test.YtbbdmphclnnejaaDoorTie
import Derived.Test.YtbbdmphclnnejaaDoorCards
import Derived.ProofKit
import Derived.OpenShut
import Derived.ShutString
import Derived.ChangeOld
import Derived.LaidMore
import Derived.SevenTiedAt
namespace Go.Proofs.YtbbdmphclnnejaaDoor.sortkeyReads
open Go.ChangeShapes Go.WideShapes Go.ChangeAt Go.RowKit
open Go.ChangeMaps (open_string shut_string)

set_option maxRecDepth 100000 in
set_option maxHeartbeats 800000 in
theorem walk_t (s : ByteArray) (w : World) (hs : s.size ≤ maxLen) (ht : UTab w) :
    Calls Tryd.prog 4 #[.string s] w fun e w' => e = .returned (.bool true) ∧ Below w.heap.size w w' := by
  unfold maxLen at hs
  have HT := Lib.hid ht; clear ht
  by_cases h : 500 < s.size
  · have d : decide (500 < (s.size : Int)) = true := by simp; omega
    go_enter Tryd.func4, Tryd.ntmps4
    go_wp2_with fail
    refine (lives7_any _ HT.out).mono ?_
    rintro e w1 ⟨rfl, hb1⟩
    go_wp2_with fail
    go_ret
    exact ⟨rfl, hb1⟩
  have d : decide (500 < (s.size : Int)) = false := by simp; omega
  have HR := Lib.hid (fun w ht => sread_any s w ht (by omega))
  have HQ := Lib.hid (fun w => rread7_any s w (by omega))
  have HL := Lib.hid (fun w ht => sall_any s w ht (by omega))
  have HM := Lib.hid (fun w => rall7_any s w (by omega))
  generalize readK (bs s) = q at HR HQ
  generalize allK (bs s) = a at HL HM
  obtain ⟨⟨vk, vn, vt⟩, m, x⟩ := q
  obtain ⟨vs, y⟩ := a
  replace HR : Hid (∀ w, UTab w → Calls Tryd.prog 13 #[.string s] w fun e w' => e = .returned (.tuple #[VV vk vn ⟨vt.toArray⟩, .int .i64 (m : Nat), .int .i64 (x : Nat)]) ∧ Below w.heap.size w w') := HR
  replace HQ : Hid (∀ w, Calls Tryd.prog 14 #[.string s] w fun e w' => e = .returned (.tuple #[VV vk vn ⟨vt.toArray⟩, .int .i64 (m : Nat), .int .i64 (x : Nat)]) ∧ Below w.heap.size w w') := HQ
  generalize (⟨vt.toArray⟩ : ByteArray) = T at HR HQ
  go_enter Tryd.func4, Tryd.ntmps4
  go_wp2_with fail
  refine (lives7_any _ HT.out).mono ?_
  rintro e w1 ⟨rfl, hb1⟩
  go_wp2_with fail
  refine (HR.out _ (HT.out.below hb1 (Nat.le_refl _))).mono ?_
  rintro e w2 ⟨rfl, hb2⟩
  have hb2' := bthen hb1 hb2
  clear hb1 hb2
  have HB2 := Lib.hid (Blk3.new w2 (.int .i64 vk) (.int .i64 vn) (.string T) 30)
  have HT2 := Lib.hid ((HT.out.below hb2' (Nat.le_refl _)).alloc (.cells #[.int .i64 vk, .int .i64 vn, .string T] 30))
  go_wp2_with fail
  refine (HQ.out _).mono ?_
  rintro e w3 ⟨rfl, hb3⟩
  have HB3 := Lib.hid (HB2.out.below hb3 (by simp))
  have HT3 := Lib.hid ((HT2.out.below hb3 (Nat.le_refl _)).alloc (.cells #[.int .i64 vk, .int .i64 vn, .string T] 30))
  have hlt3 : w2.heap.size < w3.heap.size := new_lt' hb3
  have hb3' := bthen hb2' (below_new hb3)
  have HB3b := Lib.hid (HB3.out.below ((Below.refl _ _).alloc (Nat.le_refl _) (.cells #[.int .i64 vk, .int .i64 vn, .string T] 30)) hlt3)
  have HC3 := Lib.hid (Blk3.new w3 (.int .i64 vk) (.int .i64 vn) (.string T) 30)
  clear hb2' hb3
  go_wp2_with fail
  refine (HL.out _ HT3.out).mono ?_
  rintro e w4 ⟨v4, l, rfl, ho4, hvs4, hl4, hb4⟩
  have HB4 := Lib.hid (HB3b.out.below hb4 (by simp; omega))
  have HC4 := Lib.hid (HC3.out.below hb4 (by simp))
  have hlt4 : w3.heap.size < w4.heap.size := new_lt' hb4
  have hb4' := bthen hb3' (below_new hb4)
  obtain ⟨A4, c4, rfl, hA4⟩ := ValsAt.of_own ho4
  have HA4 := Lib.hid hA4
  clear hb3' hb4 ho4 hA4
  go_wp2_with fail
  refine (HM.out _).mono ?_
  rintro e w5 ⟨v5, l2, rfl, ho5, hvs5, _, hb5⟩
  obtain rfl : l = l2 := vls_inj (hvs4.trans hvs5.symm)
  have HB5 := Lib.hid (HB4.out.below hb5 (by omega))
  have HC5 := Lib.hid (HC4.out.below hb5 (by omega))
  have hb5' := bthen hb4' hb5
  obtain ⟨A5, c5, rfl, hA5⟩ := ValsAt.of_own ho5
  have HS := Lib.hid (rsame7_eq A4 A5 c4 c5 l w5 (HA4.out.to hb5) hA5 hl4)
  clear hb4' hb5 ho5 hA5
  obtain ⟨c0, c1, c2, _, _, _⟩ := HB5.out
  obtain ⟨e0, e1, e2, _, _, _⟩ := HC5.out
  go_wp2_with fail
  refine HS.out.mono ?_
  rintro e w6 ⟨rfl, hb6⟩
  go_wp2_with fail
  go_ret
  exact ⟨rfl, bthen hb5' hb6⟩
theorem walk (s : ByteArray) (w : World) (hs : s.size ≤ maxLen) (hL : laidMetH Tryd.prog Rows.sortkeyReadsRow.laid w) :
    Calls Tryd.prog 4 #[.string s] w fun e w' => e = .returned (.bool true) ∧ Below w.heap.size w w' :=
  walk_t s w hs (utab_of (by kernel_rfl) (by repeat (first | exact List.Mem.head _ | apply List.Mem.tail)) (by repeat (first | exact List.Mem.head _ | apply List.Mem.tail)) hL)
theorem own : ownKnob Tryd.prog.godebug = none := by kernel_rfl
theorem laidOut : laidOutB Tryd.prog = true := by kernel_rfl
theorem door_met (os : Os) (args : Array Value) : laidMetH Tryd.prog Rows.sortkeyReadsRow.laid ((World.doorLaid Tryd.prog 19 os).forCall (fun _ _ => 0) ⟨#[], args, []⟩).memory :=
  laidMetH_of_parts3 (fuel := 8) (laidMet_of_run' 8 (by kernel_rfl) (by kernel_rfl)) (by kernel_rfl) (by kernel_rfl)
set_option maxRecDepth 100000 in
theorem lifted (os : Os) (started : os.Started) (H : Type) (enc : TypeId × Value → H) :
    ReturnsInHanded {} Tryd.checked os 4 .any (fun w args => (Rows.sortkeyReadsSpec.pre enc Tryd.prog Tryd.f4 [] false w args ∧ laidMetH Tryd.prog Rows.sortkeyReadsRow.laid w) ∧ sizedMet enc Tryd.prog Tryd.f4 (OpenSpec.ofChange Rows.sortkeyReadsSpec) false w args)
      (Rows.sortkeyReadsSpec.post enc Tryd.prog Tryd.f4 false true false false) := by
  refine returnsInHanded_of_change_and (C := Tryd.checked) (X := fun w _ => laidMetH Tryd.prog Rows.sortkeyReadsRow.laid w) (fun _ _ _ hh h => h.of_heap hh) own started (by kernel_rfl) Tryd.func4
    (ChangeSpec.witness_shaped (enc := enc) (C := Tryd.checked) (os := os) (X := fun w _ => laidMetH Tryd.prog Rows.sortkeyReadsRow.laid w) false (World.doorLaid Tryd.prog 19 os) #[.string ByteArray.empty] 8 rfl (World.shaped_of_RefB (by kernel_rfl) (by kernel_rfl)) (by kernel_rfl) (by kernel_rfl) (by kernel_rfl) (door_met os _)) ?_
  intro W base args ds gs before hval0 hW hcnd _ hL _
  have hval : ∀ (j : Nat) t v, Tryd.f4.params[j]? = some t → args[j]? = some v → Value.okWide Tryd.prog W .any base t v := hval0
  have hW' := hW
  obtain ⟨p, q, hA0, hV, rfl, hfz, hnd⟩ := hW
  have hA : DataW.TrodAll enc Tryd.prog W 0 (fun _ => true) true Tryd.f4.params.toList args.toList ds p := hA0
  rw [Tryd.params4] at hA hval
  obtain ⟨v0, vs0, d0, ds0, p0, q0, hargs, rfl, rfl, h0, r0⟩ := trodAll_cons hA
  obtain ⟨rfl, rfl, rfl⟩ := trodAll_nil r0
  obtain rfl : args = #[v0] := by cases args; simp_all
  obtain ⟨rfl, rfl⟩ := trodVars_none hV
  obtain ⟨a0, rfl, rfl, rfl, w0⟩ := open_string Tryd.underlying9 (hval 0 9 v0 rfl rfl) h0
  clear hA0 hval0
  refine (walk a0 W w0 hL).mono fun e W' ⟨he, bel⟩ => ?_
  subst he
  exact ⟨_, rfl, _, _, _, [], _, [], hW', trodAll_mk1 (shut_bool Tryd.underlying4 _), (trodAll_cons_mk (shut_string Tryd.underlying9 w0) trodAll_mk0), rfl, bel.frame _, fun h => by cases h⟩

theorem over : Rows.SortkeyReadsSaid :=
  OpenClaim.holds_of_wide 4 Tryd.f4 rfl rfl rfl rfl rfl rfl rfl ⟨rfl, rfl, rfl, rfl, rfl⟩ rfl rfl rfl rfl rfl (by kernel_rfl) Tryd.func4 (by kernel_rfl)
    (of_decide_eq_true (by kernel_rfl)) (by unfold Func.isWrapper; first | (rw [if_pos (by decide +kernel)]; kernel_rfl) | (rw [if_neg (by decide +kernel)]; exact ⟨rfl, rfl⟩))
    (fun os started H enc _ => lifted os started H enc)

/-- the given statement: the card -/
theorem proved : Rows.SortkeyReadsCardSaid :=
  Claim7.holds_tied_plain_at .later [] [.data, .data] true (true, "009bbacac2e6be8747f5013c9a6cf81ed09579dfdc9dddcbc1ee5906f4c6a32b") false
    over (fun _ h => by cases h) (by kernel_rfl) (fun _ h => by cases h) sortkeyReads_row_tie rfl ⟨rfl, rfl⟩ (by kernel_rfl) rfl
    (fun f fn hf hfn => by
      obtain rfl : f = 4 := Option.some.inj ((show Tryd.prog.funcNamed "haulage/haulagelaw07.SortkeyReads" = some 4 by kernel_rfl).symm.trans hf) |>.symm
      obtain rfl : fn = Tryd.f4 := (Option.some.inj (Tryd.func4.symm.trans hfn)).symm
      exact ⟨by kernel_rfl, fun j t ht => by
        rw [Tryd.params4] at ht
        have hm : t ∈ [9] := by simpa using Array.mem_of_getElem? ht
        have hall : ([9].all fun u => !Tryd.prog.wantsStandIn u) = true := by kernel_rfl
        exact (show Tryd.prog.wantsStandIn t = false by simpa using List.all_eq_true.1 hall t hm)⟩)
    (by kernel_rfl)
#print axioms proved
end Go.Proofs.YtbbdmphclnnejaaDoor.sortkeyReads
