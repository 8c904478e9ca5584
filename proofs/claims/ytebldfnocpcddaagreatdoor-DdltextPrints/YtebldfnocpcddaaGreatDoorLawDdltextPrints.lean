/-
  DdltextPrints: for every change the law returns true: whether it can be written, and its text, is what the page says. No condition but that the tables of packages utf, typ and ddltext read as the program's text lays them (tied by the card).
-/
import Derived.Test.YtebldfnocpcddaaGreatDoorTie
import Derived.Test.YtebldfnocpcddaaGreatDoorCards
import Derived.ProofKit
import Derived.OpenShut
import Derived.ShutString
import Derived.ChangeOld
import Derived.LaidMore
import Derived.SevenTiedAt
import Derived.Lay
import Derived.Test.YtebldfnocpcddaaGreatDoorPart34
import Derived.Test.YtebldfnocpcddaaGreatDoorPart41
namespace Go.Proofs.YtebldfnocpcddaaGreatDoor.ddltextPrints
open Go.ChangeShapes Go.WideShapes Go.ChangeAt Go.RowKit
open Go.ChangeMaps (open_string shut_string)

set_option maxRecDepth 100000 in
set_option maxHeartbeats 6400000 in
theorem walk_t (a : Db) (w : World) (hin : InD w a) (hs : SmD a.p) (ht : Tbs w) :
    Calls Tryz.prog 3 #[DV a] w fun e w' => e = .returned (.bool true) ∧ Below w.heap.size w w' := by
  obtain ⟨w0, hw0, hb0, hX, hs0⟩ := box_d10 w a
  have Hw0 := Lib.hid hw0; clear hw0
  have HbW := Lib.hid hb0
  have HX := Lib.hid hX; clear hX
  have Hs0 := Lib.hid hs0; clear hs0
  have HA := Lib.hid (DdlAt.to hin.2.2.2.2.2.2.2.2.2.2.2.2.1 hb0)
  have HT := Lib.hid (ht.below hb0); clear ht hb0
  have HLv := Lib.hid (lives10_any w0 HT.out)
  have HFa := Lib.hid (fun w' h => few9_any a w' h hin.2.2.2.2.2.2.2.2.2.2.1 hs)
  have HWa := Lib.hid (fun h => WfP_of (d := a) h hin)
  clear hin hs
  go_enter Tryz.func3, Tryz.ntmps3
  go_wp2_with fail
  try rw [Hw0.out]
  refine (HLv.out).mono ?_
  rintro e w1 ⟨rfl, hb⟩
  have Hb1 := Lib.hid hb
  clear hb
  try clear x0 x1 x2 x3 x4 x5 x6 x7 x8 x9 x10 x11
  obtain ⟨x0, x1, x2, x3, x4, x5, x6, x7, x8, x9, x10, x11⟩ := (HX.out.below Hb1.out (by have := Hs0.out; omega)).ddl
  go_wp2_with fail
  refine (HFa.out w1 (HA.out.to Hb1.out)).mono ?_
  rintro e w2 ⟨rfl, hb⟩
  have Hb2 := Lib.hid (bthen Hb1.out hb)
  clear hb
  try clear x0 x1 x2 x3 x4 x5 x6 x7 x8 x9 x10 x11
  obtain ⟨x0, x1, x2, x3, x4, x5, x6, x7, x8, x9, x10, x11⟩ := (HX.out.below Hb2.out (by have := Hs0.out; omega)).ddl
  cases hfa : fewD a.p
  · go_wp2_with fail
    go_ret
    exact ⟨by rw []; rfl, bthen HbW.out Hb2.out⟩
  have Hwa := Lib.hid (HWa.out hfa)
  clear hfa HWa HFa HLv
  have HRC := Lib.hid (fun w h => rcan_any a w h Hwa.out)
  have HPC := Lib.hid (fun w t h => pcan_any a w t h Hwa.out)
  go_wp2_with fail
  cases hca : canD a.p
  · rw [hca] at HRC HPC
    refine (pprint_no a w2 (HT.out.below Hb2.out) (HA.out.to Hb2.out) Hwa.out hca).mono ?_
    rintro e w3 ⟨rfl, hb⟩
    have Hb3 := Lib.hid (bthen Hb2.out hb)
    clear hb
    try clear x0 x1 x2 x3 x4 x5 x6 x7 x8 x9 x10 x11
    obtain ⟨x0, x1, x2, x3, x4, x5, x6, x7, x8, x9, x10, x11⟩ := (HX.out.below Hb3.out (by have := Hs0.out; omega)).ddl
    clear hca
    go_wp2_with fail
    refine (HRC.out w3 (HA.out.to Hb3.out)).mono ?_
    rintro e w4 ⟨rfl, hb⟩
    have Hb4 := Lib.hid (bthen Hb3.out hb)
    clear hb
    try clear x0 x1 x2 x3 x4 x5 x6 x7 x8 x9 x10 x11
    obtain ⟨x0, x1, x2, x3, x4, x5, x6, x7, x8, x9, x10, x11⟩ := (HX.out.below Hb4.out (by have := Hs0.out; omega)).ddl
    go_wp2_with fail
    refine (HPC.out w4 (HT.out.below Hb4.out) (HA.out.to Hb4.out)).mono ?_
    rintro e w5 ⟨rfl, hb⟩
    have Hb5 := Lib.hid (bthen Hb4.out hb)
    clear hb
    try clear x0 x1 x2 x3 x4 x5 x6 x7 x8 x9 x10 x11
    obtain ⟨x0, x1, x2, x3, x4, x5, x6, x7, x8, x9, x10, x11⟩ := (HX.out.below Hb5.out (by have := Hs0.out; omega)).ddl
    go_wp2_with fail
    go_ret
    exact ⟨by rw []; rfl, bthen HbW.out Hb5.out⟩
  · rw [hca] at HRC HPC
    obtain ⟨t, ht⟩ : ∃ t, strB (dtx [32] a.p []) = t := ⟨_, rfl⟩
    have HRP := Lib.hid (fun w h => rprint_any a t w h Hwa.out hca (by rw [← ht]; exact bs_mk _))
    have htt : (t.toList == t.toList) = true := by simp
    refine (pprint_yes a w2 t (HT.out.below Hb2.out) (HA.out.to Hb2.out) Hwa.out hca ht).mono ?_
    rintro e w3 ⟨rfl, hb⟩
    have Hb3 := Lib.hid (bthen Hb2.out hb)
    clear hb
    try clear x0 x1 x2 x3 x4 x5 x6 x7 x8 x9 x10 x11
    obtain ⟨x0, x1, x2, x3, x4, x5, x6, x7, x8, x9, x10, x11⟩ := (HX.out.below Hb3.out (by have := Hs0.out; omega)).ddl
    clear hca ht
    go_wp2_with fail
    refine (HRC.out w3 (HA.out.to Hb3.out)).mono ?_
    rintro e w4 ⟨rfl, hb⟩
    have Hb4 := Lib.hid (bthen Hb3.out hb)
    clear hb
    try clear x0 x1 x2 x3 x4 x5 x6 x7 x8 x9 x10 x11
    obtain ⟨x0, x1, x2, x3, x4, x5, x6, x7, x8, x9, x10, x11⟩ := (HX.out.below Hb4.out (by have := Hs0.out; omega)).ddl
    go_wp2_with fail
    refine (HPC.out w4 (HT.out.below Hb4.out) (HA.out.to Hb4.out)).mono ?_
    rintro e w5 ⟨rfl, hb⟩
    have Hb5 := Lib.hid (bthen Hb4.out hb)
    clear hb
    try clear x0 x1 x2 x3 x4 x5 x6 x7 x8 x9 x10 x11
    obtain ⟨x0, x1, x2, x3, x4, x5, x6, x7, x8, x9, x10, x11⟩ := (HX.out.below Hb5.out (by have := Hs0.out; omega)).ddl
    go_wp2_with fail
    refine (HRP.out w5 (HA.out.to Hb5.out)).mono ?_
    rintro e w6 ⟨rfl, hb⟩
    have Hb6 := Lib.hid (bthen Hb5.out hb)
    clear hb
    try clear x0 x1 x2 x3 x4 x5 x6 x7 x8 x9 x10 x11
    obtain ⟨x0, x1, x2, x3, x4, x5, x6, x7, x8, x9, x10, x11⟩ := (HX.out.below Hb6.out (by have := Hs0.out; omega)).ddl
    go_wp2_with fail
    go_ret
    exact ⟨by rw []; rfl, bthen HbW.out Hb6.out⟩
theorem walk (a : Db) (w : World) (hin : InD w a) (hs : SmD a.p) (hL : laidMetH Tryz.prog Rows.ddltextPrintsRow.laid w) :
    Calls Tryz.prog 3 #[DV a] w fun e w' => e = .returned (.bool true) ∧ Below w.heap.size w w' :=
  walk_t a w hin hs ⟨utab_of (by kernel_rfl) (by repeat (first | exact List.Mem.head _ | apply List.Mem.tail)) (by repeat (first | exact List.Mem.head _ | apply List.Mem.tail)) hL, ktab_of (by kernel_rfl) (by repeat (first | exact List.Mem.head _ | apply List.Mem.tail)) hL, wtab_of (by kernel_rfl) (by repeat (first | exact List.Mem.head _ | apply List.Mem.tail)) hL⟩
theorem own : ownKnob Tryz.prog.godebug = none := by kernel_rfl
theorem laidOut : laidOutB Tryz.prog = true := by kernel_rfl
theorem door_met (os : Os) (args : Array Value) : laidMetH Tryz.prog Rows.ddltextPrintsRow.laid ((World.laidAll Tryz.prog os Rows.ddltextPrintsRow.laid).forCall (fun _ _ => 0) ⟨#[], args, []⟩).memory := by
  rw [MakeChecks.laidMetH_plain _ _ _ (by kernel_rfl)]
  exact laidMet_laidAll args (by kernel_rfl) (by kernel_rfl)
set_option maxRecDepth 100000 in
theorem lifted (os : Os) (started : os.Started) (H : Type) (enc : TypeId × Value → H) :
    ReturnsInHanded {} Tryz.checked os 3 .any (fun w args => (Rows.ddltextPrintsSpec.pre enc Tryz.prog Tryz.f3 [] false w args ∧ laidMetH Tryz.prog Rows.ddltextPrintsRow.laid w) ∧ sizedMet enc Tryz.prog Tryz.f3 (OpenSpec.ofChange Rows.ddltextPrintsSpec) false w args)
      (Rows.ddltextPrintsSpec.post enc Tryz.prog Tryz.f3 false true false false) := by
  refine returnsInHanded_of_change_and (C := Tryz.checked) (X := fun w _ => laidMetH Tryz.prog Rows.ddltextPrintsRow.laid w) (fun _ _ _ hh h => h.of_heap hh) own started (by kernel_rfl) Tryz.func3
    (ChangeSpec.witness_shaped (enc := enc) (C := Tryz.checked) (os := os) (X := fun w _ => laidMetH Tryz.prog Rows.ddltextPrintsRow.laid w) false (World.laidAll Tryz.prog os Rows.ddltextPrintsRow.laid) #[.agg #[.int .i64 0, .string ByteArray.empty, .string ByteArray.empty, .string ByteArray.empty, .string ByteArray.empty, .int .i64 0, .int .i64 0, .bool false, .int .i64 0, .int .i64 0, .string ByteArray.empty, .slice none 0 0]] 8 (World.laidAll_os _ _ _) (World.shaped_of_ZipB (by kernel_rfl) (by kernel_rfl)) (by kernel_rfl) (by kernel_rfl) (by kernel_rfl) (door_met os _)) ?_
  intro W base args ds gs before hval0 hW hcnd hz0 hL _
  have hval : ∀ (j : Nat) t v, Tryz.f3.params[j]? = some t → args[j]? = some v → Value.okWide Tryz.prog W .any base t v := hval0
  have hz1 := sized_each hz0
  have hW' := hW
  obtain ⟨p, q, hA0, hV, rfl, hfz, hnd⟩ := hW
  have hA : DataW.TrodAll enc Tryz.prog W 0 (fun _ => true) true Tryz.f3.params.toList args.toList ds p := hA0
  rw [Tryz.params3] at hA hval hz1
  obtain ⟨v0, vs0, d0, ds0, p0, q0, hargs, rfl, rfl, h0, r0⟩ := trodAll_cons hA
  obtain ⟨rfl, rfl, rfl⟩ := trodAll_nil r0
  obtain rfl : args = #[v0] := by cases args; simp_all
  obtain ⟨rfl, rfl⟩ := trodVars_none hV
  have k0 := h0
  have lt0 : ∀ x ∈ p0, x.block < W.heap.size := by obtain ⟨m, hm⟩ := k0; exact DataW.trod_lt m _ _ _ hm
  obtain ⟨t0, rfl, w0, z0⟩ := openDDLW (hval 0 28 v0 rfl rfl) h0 (hz1 0 28 d0 rfl rfl)
  clear hA0 hval0
  refine (walk t0 W w0 z0 hL).mono fun e W' ⟨he, bel⟩ => ?_
  subst he
  exact ⟨_, rfl, _, _, _, [], _, [], hW', trodAll_mk1 (shut_bool Tryz.underlying4 _), (trodAll_cons_mk (Below.trod laidOut (by kernel_rfl) (of_decide_eq_true (by kernel_rfl)) k0 bel lt0) trodAll_mk0), rfl, bel.frame _, fun h => by cases h⟩

theorem over : Rows.DdltextPrintsSaid :=
  OpenClaim.holds_of_wide 3 Tryz.f3 rfl rfl rfl rfl rfl rfl rfl ⟨rfl, rfl, rfl, rfl, rfl⟩ rfl rfl rfl rfl rfl (by kernel_rfl) Tryz.func3 (by kernel_rfl)
    (of_decide_eq_true (by kernel_rfl)) (by unfold Func.isWrapper; first | (rw [if_pos (by decide +kernel)]; kernel_rfl) | (rw [if_neg (by decide +kernel)]; exact ⟨rfl, rfl⟩))
    (fun os started H enc _ => lifted os started H enc)

/-- the given statement: the card -/
theorem proved : Rows.DdltextPrintsCardSaid :=
  Claim7.holds_tied_plain_at .later [] [.data, .data, .data, .data, .data, .pinned] true (true, "0cb059bcbcc0aca0d26491598ff56dcbb5a3f1857b9cdcd3953b8b2bd2b7305c") true
    over (fun _ h => by cases h) (by kernel_rfl) (fun _ h => by cases h) ddltextPrints_row_tie rfl ⟨rfl, rfl⟩ (by kernel_rfl) rfl
    (fun f fn hf hfn => by
      obtain rfl : f = 3 := Option.some.inj ((show Tryz.prog.funcNamed "haulage/haulagelaw10.DdltextPrints" = some 3 by kernel_rfl).symm.trans hf) |>.symm
      obtain rfl : fn = Tryz.f3 := (Option.some.inj (Tryz.func3.symm.trans hfn)).symm
      exact ⟨by kernel_rfl, fun j t ht => by
        rw [Tryz.params3] at ht
        have hm : t ∈ [28] := by simpa using Array.mem_of_getElem? ht
        have hall : ([28].all fun u => !Tryz.prog.wantsStandIn u) = true := by kernel_rfl
        exact (show Tryz.prog.wantsStandIn t = false by simpa using List.all_eq_true.1 hall t hm)⟩)
    (by kernel_rfl)
#print axioms proved
end Go.Proofs.YtebldfnocpcddaaGreatDoor.ddltextPrints
