/-
  TypTexts: for every type and every text the law returns true: the type as a text, and what a text begins with and is, is what the page says, and both lead back. No condition but that the tables of packages utf and typ read as the program's text lays them (tied by the card).
-/
import Derived.Test.YtlfjkbghgfljaaaDoorTypRefReadC
import Derived.Test.YtlfjkbghgfljaaaDoorTypPrintC
import Derived.Test.YtlfjkbghgfljaaaDoorTypOpen
import Derived.Test.YtlfjkbghgfljaaaDoorTie
import Derived.Test.YtlfjkbghgfljaaaDoorCards
import Derived.ProofKit
import Derived.OpenShut
import Derived.ShutString
import Derived.ChangeOld
import Derived.LaidMore
import Derived.SevenTiedAt
namespace Go.Proofs.YtlfjkbghgfljaaaDoor.typTexts
open Go.ChangeShapes Go.WideShapes Go.ChangeAt Go.RowKit
open Go.ChangeMaps (open_string shut_string)

set_option maxRecDepth 100000 in
set_option maxHeartbeats 3200000 in
theorem walk_t (k m : Int) (s : ByteArray) (w : World) (HT : Hid (UTab w)) (HK : Hid (KTab w)) :
    Calls Tryd.prog 6 #[TT k m, .string s] w fun e w' => e = .returned (.bool true) ∧ Below w.heap.size w w' := by
  by_cases hs : 100 < s.size
  · have hd : decide (100 < (s.size : Int)) = true := by simp; omega
    go_enter Tryd.func6, Tryd.ntmps6
    go_wp2_with fail
    refine (lives6_any _ (HT.out.alloc _)).mono ?_
    rintro e w1 ⟨rfl, hb1⟩
    have hb' := below_new hb1
    go_wp2_with fail
    go_ret
    exact ⟨rfl, hb'⟩
  have hd : decide (100 < (s.size : Int)) = false := by simp; omega
  have H2 := Lib.hid (fun w hk => tread_any s w hk (by omega))
  have H3 := Lib.hid (fun w => trread_any s w (by omega))
  have H4 := Lib.hid (fun w hk => tparse_any s w hk (by omega))
  have H5 := Lib.hid (fun w => trparse_any s w (by omega))
  clear hs
  generalize readT (bs s) = q at H2 H3
  generalize parseT (bs s) = q2 at H4 H5
  obtain ⟨⟨ak, am⟩, az, ae⟩ := q
  obtain ⟨⟨ck, cm⟩, ce⟩ := q2
  replace H2 : Hid (∀ w, KTab w → Calls Tryd.prog 20 #[.string s] w fun e w' => e = .returned (.tuple #[TT ak am, .int .i64 (az : Nat), .int .i64 (ae : Nat)]) ∧ Below w.heap.size w w') := H2
  replace H3 : Hid (∀ w, Calls Tryd.prog 21 #[.string s] w fun e w' => e = .returned (.tuple #[TT ak am, .int .i64 (az : Nat), .int .i64 (ae : Nat)]) ∧ Below w.heap.size w w') := H3
  replace H4 : Hid (∀ w, KTab w → Calls Tryd.prog 22 #[.string s] w fun e w' => e = .returned (.tuple #[TT ck cm, .int .i64 (ce : Nat)]) ∧ Below w.heap.size w w') := H4
  replace H5 : Hid (∀ w, Calls Tryd.prog 23 #[.string s] w fun e w' => e = .returned (.tuple #[TT ck cm, .int .i64 (ce : Nat)]) ∧ Below w.heap.size w w') := H5
  have HRR := Lib.hid (fun w => trright_any k m w)
  cases hr : rightT k m
  · have HP := Lib.hid (fun w => tprint_no k m w hr)
    rw [hr] at HRR
    clear hr
    go_enter Tryd.func6, Tryd.ntmps6
    go_wp2_with fail
    refine (lives6_any _ (HT.out.alloc _)).mono ?_
    rintro e w1 ⟨rfl, hb1⟩
    have A0 := Lib.hid ((Blk2.new w _ _ _ _ rfl).below hb1 (by simp))
    have K1 := Lib.hid ((HK.out.alloc _).below hb1 (Nat.le_refl _))
    have z1 := box_lt hb1
    have L1 := Lib.hid (below_new hb1)
    clear hb1
    go_wp2_with fail
    refine (H2.out _ K1.out).mono ?_
    rintro e w2 ⟨rfl, hb2⟩
    have z2 := hb2.size
    have K2 := Lib.hid (K1.out.below hb2 (Nat.le_refl _))
    have A2 := Lib.hid (A0.out.below hb2 z1)
    have L2 := Lib.hid (L1.out.trans (hb2.mono L1.out.size))
    clear hb2
    go_wp2_with fail
    refine (H3.out _).mono ?_
    rintro e w3 ⟨rfl, hb3⟩
    have z3 := box_lt hb3
    have hb3' := below_new hb3
    have B3 := Lib.hid ((Blk2.new w2 _ _ _ _ rfl).below hb3 (by simp))
    have K3 := Lib.hid (K2.out.below hb3' (Nat.le_refl _))
    have A3 := Lib.hid (A2.out.below hb3' (by omega))
    have L3 := Lib.hid (L2.out.trans (hb3'.mono L2.out.size))
    clear hb3 hb3'
    go_wp2_with fail
    refine (H4.out _ (K3.out.alloc _)).mono ?_
    rintro e w4 ⟨rfl, hb4⟩
    have z4 := box_lt hb4
    have hb4' := below_new hb4
    have C4 := Lib.hid ((Blk2.new w3 _ _ _ _ rfl).below hb4 (by simp))
    have B4 := Lib.hid (B3.out.below hb4' z3)
    have K4 := Lib.hid (K3.out.below hb4' (Nat.le_refl _))
    have A4 := Lib.hid (A3.out.below hb4' (by omega))
    have L4 := Lib.hid (L3.out.trans (hb4'.mono L3.out.size))
    clear hb4 hb4' B3
    go_wp2_with fail
    refine (H5.out _).mono ?_
    rintro e w5 ⟨rfl, hb5⟩
    have z5 := box_lt hb5
    have hb5' := below_new hb5
    have D5 := Lib.hid ((Blk2.new w4 _ _ _ _ rfl).below hb5 (by simp))
    have C5 := Lib.hid (C4.out.below hb5' z4)
    have B5 := Lib.hid (B4.out.below hb5' (by omega))
    have K5 := Lib.hid (K4.out.below hb5' (Nat.le_refl _))
    have A5 := Lib.hid (A4.out.below hb5' (by omega))
    have L5 := Lib.hid (L4.out.trans (hb5'.mono L4.out.size))
    clear hb5 hb5' B4 C4
    have y1 : w2.heap.size < w5.heap.size := by omega
    have y2 : w3.heap.size < w5.heap.size := by omega
    have y3 : w.heap.size < w5.heap.size := by omega
    obtain ⟨b0, b1, _⟩ := B5.out
    obtain ⟨c0, c1, _⟩ := C5.out
    obtain ⟨d0, d1, _⟩ := D5.out
    obtain ⟨a0, a1, _⟩ := A5.out
    go_wp2_with fail
    refine (HP.out _).mono ?_
    rintro e w6 ⟨rfl, hb6⟩
    have hb6' := below_new hb6
    have A6 := Lib.hid (A5.out.below hb6' y3)
    have z6 := box_lt hb6
    have L6 := Lib.hid (L5.out.trans (hb6'.mono L5.out.size))
    clear hb6 hb6' a0 a1 b0 b1 c0 c1 d0 d1
    obtain ⟨a0, a1, _⟩ := A6.out
    go_wp2_with fail
    refine (HRR.out _).mono ?_
    rintro e w7 ⟨rfl, hb7⟩
    have L7 := L6.out.trans (hb7.mono L6.out.size)
    clear hb7 a0 a1
    go_wp2_with fail
    go_ret
    exact ⟨rfl, L7⟩
  · have HP := Lib.hid (fun w hk => tprint_yes k m w hk hr)
    have HRP := Lib.hid (fun w => trprint_yes k m w hr)
    have H8 := Lib.hid (fun w hk => tparse_any ⟨(prT k m).toArray⟩ w hk (by rw [ba_size]; have := prT_len hr; omega))
    rw [bs_mk (prT k m), print_parseT hr] at H8
    replace H8 : Hid (∀ w, KTab w → Calls Tryd.prog 22 #[.string ⟨(prT k m).toArray⟩] w fun e w' => e = .returned (.tuple #[TT k m, .int .i64 0]) ∧ Below w.heap.size w w') := H8
    rw [hr] at HRR
    clear hr
    generalize (⟨(prT k m).toArray⟩ : ByteArray) = U at HP HRP H8
    go_enter Tryd.func6, Tryd.ntmps6
    go_wp2_with fail
    refine (lives6_any _ (HT.out.alloc _)).mono ?_
    rintro e w1 ⟨rfl, hb1⟩
    have A0 := Lib.hid ((Blk2.new w _ _ _ _ rfl).below hb1 (by simp))
    have K1 := Lib.hid ((HK.out.alloc _).below hb1 (Nat.le_refl _))
    have z1 := box_lt hb1
    have L1 := Lib.hid (below_new hb1)
    clear hb1
    go_wp2_with fail
    refine (H2.out _ K1.out).mono ?_
    rintro e w2 ⟨rfl, hb2⟩
    have z2 := hb2.size
    have K2 := Lib.hid (K1.out.below hb2 (Nat.le_refl _))
    have A2 := Lib.hid (A0.out.below hb2 z1)
    have L2 := Lib.hid (L1.out.trans (hb2.mono L1.out.size))
    clear hb2
    go_wp2_with fail
    refine (H3.out _).mono ?_
    rintro e w3 ⟨rfl, hb3⟩
    have z3 := box_lt hb3
    have hb3' := below_new hb3
    have B3 := Lib.hid ((Blk2.new w2 _ _ _ _ rfl).below hb3 (by simp))
    have K3 := Lib.hid (K2.out.below hb3' (Nat.le_refl _))
    have A3 := Lib.hid (A2.out.below hb3' (by omega))
    have L3 := Lib.hid (L2.out.trans (hb3'.mono L2.out.size))
    clear hb3 hb3'
    go_wp2_with fail
    refine (H4.out _ (K3.out.alloc _)).mono ?_
    rintro e w4 ⟨rfl, hb4⟩
    have z4 := box_lt hb4
    have hb4' := below_new hb4
    have C4 := Lib.hid ((Blk2.new w3 _ _ _ _ rfl).below hb4 (by simp))
    have B4 := Lib.hid (B3.out.below hb4' z3)
    have K4 := Lib.hid (K3.out.below hb4' (Nat.le_refl _))
    have A4 := Lib.hid (A3.out.below hb4' (by omega))
    have L4 := Lib.hid (L3.out.trans (hb4'.mono L3.out.size))
    clear hb4 hb4' B3
    go_wp2_with fail
    refine (H5.out _).mono ?_
    rintro e w5 ⟨rfl, hb5⟩
    have z5 := box_lt hb5
    have hb5' := below_new hb5
    have D5 := Lib.hid ((Blk2.new w4 _ _ _ _ rfl).below hb5 (by simp))
    have C5 := Lib.hid (C4.out.below hb5' z4)
    have B5 := Lib.hid (B4.out.below hb5' (by omega))
    have K5 := Lib.hid (K4.out.below hb5' (Nat.le_refl _))
    have A5 := Lib.hid (A4.out.below hb5' (by omega))
    have L5 := Lib.hid (L4.out.trans (hb5'.mono L4.out.size))
    clear hb5 hb5' B4 C4
    have y1 : w2.heap.size < w5.heap.size := by omega
    have y2 : w3.heap.size < w5.heap.size := by omega
    have y3 : w.heap.size < w5.heap.size := by omega
    obtain ⟨b0, b1, _⟩ := B5.out
    obtain ⟨c0, c1, _⟩ := C5.out
    obtain ⟨d0, d1, _⟩ := D5.out
    obtain ⟨a0, a1, _⟩ := A5.out
    go_wp2_with fail
    refine (HP.out _ (K5.out.alloc _)).mono ?_
    rintro e w6 ⟨rfl, hb6⟩
    have hb6' := below_new hb6
    have A6 := Lib.hid (A5.out.below hb6' y3)
    have K6 := Lib.hid (K5.out.below hb6' (Nat.le_refl _))
    have z6 := box_lt hb6
    have L6 := Lib.hid (L5.out.trans (hb6'.mono L5.out.size))
    clear hb6 hb6' a0 a1 b0 b1 c0 c1 d0 d1
    obtain ⟨a0, a1, _⟩ := A6.out
    go_wp2_with fail
    refine (HRR.out _).mono ?_
    rintro e w7 ⟨rfl, hb7⟩
    have z7 := hb7.size
    have A7 := Lib.hid (A6.out.below hb7 (by omega))
    have K7 := Lib.hid (K6.out.below hb7 (Nat.le_refl _))
    have L7 := Lib.hid (L6.out.trans (hb7.mono L6.out.size))
    clear hb7 a0 a1
    go_wp2_with fail
    refine (H8.out _ K7.out).mono ?_
    rintro e w8 ⟨rfl, hb8⟩
    have z8 := hb8.size
    have A8 := Lib.hid (A7.out.below hb8 (by omega))
    have L8 := Lib.hid (L7.out.trans (hb8.mono L7.out.size))
    have y8 : w.heap.size < w8.heap.size := by omega
    clear hb8
    obtain ⟨a0, a1, _⟩ := A8.out
    go_wp2_with fail
    refine (HRP.out _).mono ?_
    rintro e w9 ⟨rfl, hb9⟩
    have hb9' := below_new hb9
    have E9 := Lib.hid ((Blk2.new w8 _ _ _ _ rfl).below hb9 (by simp))
    have A9 := Lib.hid (A8.out.below hb9' y8)
    have L9 := Lib.hid (L8.out.trans (hb9'.mono L8.out.size))
    clear hb9 hb9' a0 a1
    obtain ⟨a0, a1, _⟩ := A9.out
    obtain ⟨e0, e1, _⟩ := E9.out
    go_wp2_with fail
    go_ret
    exact ⟨rfl, L9.out⟩

theorem walk (k m : Int) (s : ByteArray) (w : World) (_ : (Lit.int .i64 k).wf = true) (_ : (Lit.int .i64 m).wf = true) (_ : s.size ≤ maxLen) (hL : laidMetH Tryd.prog Rows.typTextsRow.laid w) :
    Calls Tryd.prog 6 #[TT k m, .string s] w fun e w' => e = .returned (.bool true) ∧ Below w.heap.size w w' :=
  walk_t k m s w (utab_of (by kernel_rfl) (by repeat (first | exact List.Mem.head _ | apply List.Mem.tail)) (by repeat (first | exact List.Mem.head _ | apply List.Mem.tail)) hL) (ktab_of (by kernel_rfl) (by repeat (first | exact List.Mem.head _ | apply List.Mem.tail)) hL)
theorem own : ownKnob Tryd.prog.godebug = none := by kernel_rfl
theorem laidOut : laidOutB Tryd.prog = true := by kernel_rfl
theorem door_met (os : Os) (args : Array Value) : laidMetH Tryd.prog Rows.typTextsRow.laid ((World.doorLaid Tryd.prog 24 os).forCall (fun _ _ => 0) ⟨#[], args, []⟩).memory :=
  laidMetH_of_parts3 (fuel := 8) (laidMet_of_run' 8 (by kernel_rfl) (by kernel_rfl)) (by kernel_rfl) (by kernel_rfl)
set_option maxRecDepth 100000 in
theorem lifted (os : Os) (started : os.Started) (H : Type) (enc : TypeId × Value → H) :
    ReturnsInHanded {} Tryd.checked os 6 .any (fun w args => (Rows.typTextsSpec.pre enc Tryd.prog Tryd.f6 [] false w args ∧ laidMetH Tryd.prog Rows.typTextsRow.laid w) ∧ sizedMet enc Tryd.prog Tryd.f6 (OpenSpec.ofChange Rows.typTextsSpec) false w args)
      (Rows.typTextsSpec.post enc Tryd.prog Tryd.f6 false true false false) := by
  refine returnsInHanded_of_change_and (C := Tryd.checked) (X := fun w _ => laidMetH Tryd.prog Rows.typTextsRow.laid w) (fun _ _ _ hh h => h.of_heap hh) own started (by kernel_rfl) Tryd.func6
    (ChangeSpec.witness_shaped (enc := enc) (C := Tryd.checked) (os := os) (X := fun w _ => laidMetH Tryd.prog Rows.typTextsRow.laid w) false (World.doorLaid Tryd.prog 24 os) #[.agg #[.int .i64 0, .int .i64 0], .string ByteArray.empty] 8 rfl (World.shaped_of_RefB (by kernel_rfl) (by kernel_rfl)) (by kernel_rfl) (by kernel_rfl) (by kernel_rfl) (door_met os _)) ?_
  intro W base args ds gs before hval0 hW hcnd _ hL _
  have hval : ∀ (j : Nat) t v, Tryd.f6.params[j]? = some t → args[j]? = some v → Value.okWide Tryd.prog W .any base t v := hval0
  have hW' := hW
  obtain ⟨p, q, hA0, hV, rfl, hfz, hnd⟩ := hW
  have hA : DataW.TrodAll enc Tryd.prog W 0 (fun _ => true) true Tryd.f6.params.toList args.toList ds p := hA0
  rw [Tryd.params6] at hA hval
  obtain ⟨v0, vs0, d0, ds0, p0, q0, hargs, rfl, rfl, h0, r0⟩ := trodAll_cons hA
  obtain ⟨v1, vs1, d1, ds1, p1, q1, rfl, rfl, rfl, h1, r1⟩ := trodAll_cons r0
  obtain ⟨rfl, rfl, rfl⟩ := trodAll_nil r1
  obtain rfl : args = #[v0, v1] := by cases args; simp_all
  obtain ⟨rfl, rfl⟩ := trodVars_none hV
  obtain ⟨a0k, a0m, rfl, rfl, rfl, w0k, w0m⟩ := openT (hval 0 23 v0 rfl rfl) h0
  obtain ⟨a1, rfl, rfl, rfl, w1⟩ := open_string Tryd.underlying9 (hval 1 9 v1 rfl rfl) h1
  clear hA0 hval0
  refine (walk a0k a0m a1 W w0k w0m w1 hL).mono fun e W' ⟨he, bel⟩ => ?_
  subst he
  exact ⟨_, rfl, _, _, _, [], _, [], hW', trodAll_mk1 (shut_bool Tryd.underlying4 _), (trodAll_cons_mk (shutT _ _ w0k w0m) (trodAll_cons_mk (shut_string Tryd.underlying9 w1) trodAll_mk0)), rfl, bel.frame _, fun h => by cases h⟩

theorem over : Rows.TypTextsSaid :=
  OpenClaim.holds_of_wide 6 Tryd.f6 rfl rfl rfl rfl rfl rfl rfl ⟨rfl, rfl, rfl, rfl, rfl⟩ rfl rfl rfl rfl rfl (by kernel_rfl) Tryd.func6 (by kernel_rfl)
    (of_decide_eq_true (by kernel_rfl)) (by unfold Func.isWrapper; first | (rw [if_pos (by decide +kernel)]; kernel_rfl) | (rw [if_neg (by decide +kernel)]; exact ⟨rfl, rfl⟩))
    (fun os started H enc _ => lifted os started H enc)

/-- the given statement: the card -/
theorem proved : Rows.TypTextsCardSaid :=
  Claim7.holds_tied_plain_at .later [] [.data, .data, .data] true (true, "845853d3f8880bdd6136c05de4f38f3bb66592e8b8213e703d0902246d778162") false
    over (fun _ h => by cases h) (by kernel_rfl) (fun _ h => by cases h) typTexts_row_tie rfl ⟨rfl, rfl⟩ (by kernel_rfl) rfl
    (fun f fn hf hfn => by
      obtain rfl : f = 6 := Option.some.inj ((show Tryd.prog.funcNamed "haulage/haulagelaw06.TypTexts" = some 6 by kernel_rfl).symm.trans hf) |>.symm
      obtain rfl : fn = Tryd.f6 := (Option.some.inj (Tryd.func6.symm.trans hfn)).symm
      exact ⟨by kernel_rfl, fun j t ht => by
        rw [Tryd.params6] at ht
        have hm : t ∈ [23, 9] := by simpa using Array.mem_of_getElem? ht
        have hall : ([23, 9].all fun u => !Tryd.prog.wantsStandIn u) = true := by kernel_rfl
        exact (show Tryd.prog.wantsStandIn t = false by simpa using List.all_eq_true.1 hall t hm)⟩)
    (by kernel_rfl)
#print axioms proved
end Go.Proofs.YtlfjkbghgfljaaaDoor.typTexts
