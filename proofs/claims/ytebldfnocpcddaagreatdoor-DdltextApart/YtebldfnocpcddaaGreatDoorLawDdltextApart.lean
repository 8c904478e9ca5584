/-
  DdltextApart: for every two changes the law returns true: unlike changes that can be written have unlike texts. No condition but that the tables of packages utf, typ and ddltext read as the program's text lays them (tied by the card).
-/
import Derived.Test.YtebldfnocpcddaaGreatDoorDtxLawM
import Derived.Test.YtebldfnocpcddaaGreatDoorTie
import Derived.Test.YtebldfnocpcddaaGreatDoorCards
import Derived.ProofKit
import Derived.OpenShut
import Derived.ShutString
import Derived.ChangeOld
import Derived.LaidMore
import Derived.SevenTiedAt
import Derived.Lay
import Derived.Test.YtebldfnocpcddaaGreatDoorPart34
namespace Go.Proofs.YtebldfnocpcddaaGreatDoor.ddltextApart
open Go.ChangeShapes Go.WideShapes Go.ChangeAt Go.RowKit
open Go.ChangeMaps (open_string shut_string)

set_option maxRecDepth 100000 in
set_option maxHeartbeats 6400000 in
theorem walk_t (a b : Db) (w : World) (hin : InD w a) (hs : SmD a.p) (hin2 : InD w b) (hs2 : SmD b.p) (ht : Tbs w) :
    Calls Tryz.prog 6 #[DV a, DV b] w fun e w' => e = .returned (.bool true) ∧ Below w.heap.size w w' := by
  obtain ⟨w0, hw0, hb0, hX, hY, hs0⟩ := box_dd w a b
  have Hw0 := Lib.hid hw0; clear hw0
  have HbW := Lib.hid hb0
  have HX := Lib.hid hX; clear hX
  have HY := Lib.hid hY; clear hY
  have Hs0 := Lib.hid hs0; clear hs0
  have HA := Lib.hid (DdlAt.to hin.2.2.2.2.2.2.2.2.2.2.2.2.1 hb0)
  have HB := Lib.hid (DdlAt.to hin2.2.2.2.2.2.2.2.2.2.2.2.2.1 hb0)
  have HT := Lib.hid (ht.below hb0); clear ht hb0
  have HLv := Lib.hid (lives10_any w0 HT.out)
  have HFa := Lib.hid (fun w' h => few9_any a w' h hin.2.2.2.2.2.2.2.2.2.2.1 hs)
  have HFb := Lib.hid (fun w' h => few9_any b w' h hin2.2.2.2.2.2.2.2.2.2.2.1 hs2)
  have HWa := Lib.hid (fun h => WfP_of (d := a) h hin)
  have HWb := Lib.hid (fun h => WfP_of (d := b) h hin2)
  clear hin hin2 hs hs2
  go_enter Tryz.func6, Tryz.ntmps6
  go_wp2_with fail
  try rw [Hw0.out]
  refine (HLv.out).mono ?_
  rintro e w1 ⟨rfl, hb⟩
  have Hb1 := Lib.hid hb
  clear hb
  try clear x0 x1 x2 x3 x4 x5 x6 x7 x8 x9 x10 x11
  obtain ⟨x0, x1, x2, x3, x4, x5, x6, x7, x8, x9, x10, x11⟩ := (HX.out.below Hb1.out (by have := Hs0.out; omega)).ddl
  try clear y0 y1 y2 y3 y4 y5 y6 y7 y8 y9 y10 y11
  obtain ⟨y0, y1, y2, y3, y4, y5, y6, y7, y8, y9, y10, y11⟩ := (HY.out.below Hb1.out (by have := Hs0.out; omega)).ddl
  go_wp2_with fail
  refine (HFa.out w1 (HA.out.to Hb1.out)).mono ?_
  rintro e w2 ⟨rfl, hb⟩
  have Hb2 := Lib.hid (bthen Hb1.out hb)
  clear hb
  try clear x0 x1 x2 x3 x4 x5 x6 x7 x8 x9 x10 x11
  obtain ⟨x0, x1, x2, x3, x4, x5, x6, x7, x8, x9, x10, x11⟩ := (HX.out.below Hb2.out (by have := Hs0.out; omega)).ddl
  try clear y0 y1 y2 y3 y4 y5 y6 y7 y8 y9 y10 y11
  obtain ⟨y0, y1, y2, y3, y4, y5, y6, y7, y8, y9, y10, y11⟩ := (HY.out.below Hb2.out (by have := Hs0.out; omega)).ddl
  cases hfa : fewD a.p
  · go_wp2_with fail
    go_ret
    exact ⟨by rw []; rfl, bthen HbW.out Hb2.out⟩
  go_wp2_with fail
  refine (HFb.out w2 (HB.out.to Hb2.out)).mono ?_
  rintro e w3 ⟨rfl, hb⟩
  have Hb3 := Lib.hid (bthen Hb2.out hb)
  clear hb
  try clear x0 x1 x2 x3 x4 x5 x6 x7 x8 x9 x10 x11
  obtain ⟨x0, x1, x2, x3, x4, x5, x6, x7, x8, x9, x10, x11⟩ := (HX.out.below Hb3.out (by have := Hs0.out; omega)).ddl
  try clear y0 y1 y2 y3 y4 y5 y6 y7 y8 y9 y10 y11
  obtain ⟨y0, y1, y2, y3, y4, y5, y6, y7, y8, y9, y10, y11⟩ := (HY.out.below Hb3.out (by have := Hs0.out; omega)).ddl
  cases hfb : fewD b.p
  · go_wp2_with fail
    go_ret
    exact ⟨by rw []; rfl, bthen HbW.out Hb3.out⟩
  have Hwa := Lib.hid (HWa.out hfa)
  have Hwb := Lib.hid (HWb.out hfb)
  clear hfa hfb HWa HWb HFa HFb HLv
  go_wp2_with fail
  cases hca : canD a.p
  · skip
    refine (pprint_no a w3 (HT.out.below Hb3.out) (HA.out.to Hb3.out) Hwa.out hca).mono ?_
    rintro e w4 ⟨rfl, hb⟩
    have Hb4 := Lib.hid (bthen Hb3.out hb)
    clear hb
    try clear x0 x1 x2 x3 x4 x5 x6 x7 x8 x9 x10 x11
    obtain ⟨x0, x1, x2, x3, x4, x5, x6, x7, x8, x9, x10, x11⟩ := (HX.out.below Hb4.out (by have := Hs0.out; omega)).ddl
    try clear y0 y1 y2 y3 y4 y5 y6 y7 y8 y9 y10 y11
    obtain ⟨y0, y1, y2, y3, y4, y5, y6, y7, y8, y9, y10, y11⟩ := (HY.out.below Hb4.out (by have := Hs0.out; omega)).ddl
    clear hca
    go_wp2_with fail
    cases hcb : canD b.p
    · skip
      refine (pprint_no b w4 (HT.out.below Hb4.out) (HB.out.to Hb4.out) Hwb.out hcb).mono ?_
      rintro e w5 ⟨rfl, hb⟩
      have Hb5 := Lib.hid (bthen Hb4.out hb)
      clear hb
      try clear x0 x1 x2 x3 x4 x5 x6 x7 x8 x9 x10 x11
      obtain ⟨x0, x1, x2, x3, x4, x5, x6, x7, x8, x9, x10, x11⟩ := (HX.out.below Hb5.out (by have := Hs0.out; omega)).ddl
      try clear y0 y1 y2 y3 y4 y5 y6 y7 y8 y9 y10 y11
      obtain ⟨y0, y1, y2, y3, y4, y5, y6, y7, y8, y9, y10, y11⟩ := (HY.out.below Hb5.out (by have := Hs0.out; omega)).ddl
      clear hcb
      go_wp2_with fail
      go_ret
      exact ⟨by rw []; rfl, bthen HbW.out Hb5.out⟩
    · obtain ⟨t, ht⟩ : ∃ t, strB (dtx [32] b.p []) = t := ⟨_, rfl⟩
      refine (pprint_yes b w4 t (HT.out.below Hb4.out) (HB.out.to Hb4.out) Hwb.out hcb ht).mono ?_
      rintro e w5 ⟨rfl, hb⟩
      have Hb5 := Lib.hid (bthen Hb4.out hb)
      clear hb
      try clear x0 x1 x2 x3 x4 x5 x6 x7 x8 x9 x10 x11
      obtain ⟨x0, x1, x2, x3, x4, x5, x6, x7, x8, x9, x10, x11⟩ := (HX.out.below Hb5.out (by have := Hs0.out; omega)).ddl
      try clear y0 y1 y2 y3 y4 y5 y6 y7 y8 y9 y10 y11
      obtain ⟨y0, y1, y2, y3, y4, y5, y6, y7, y8, y9, y10, y11⟩ := (HY.out.below Hb5.out (by have := Hs0.out; omega)).ddl
      clear hcb ht
      go_wp2_with fail
      go_ret
      exact ⟨by rw []; rfl, bthen HbW.out Hb5.out⟩
  · obtain ⟨t, ht⟩ : ∃ t, strB (dtx [32] a.p []) = t := ⟨_, rfl⟩
    refine (pprint_yes a w3 t (HT.out.below Hb3.out) (HA.out.to Hb3.out) Hwa.out hca ht).mono ?_
    rintro e w4 ⟨rfl, hb⟩
    have Hb4 := Lib.hid (bthen Hb3.out hb)
    clear hb
    try clear x0 x1 x2 x3 x4 x5 x6 x7 x8 x9 x10 x11
    obtain ⟨x0, x1, x2, x3, x4, x5, x6, x7, x8, x9, x10, x11⟩ := (HX.out.below Hb4.out (by have := Hs0.out; omega)).ddl
    try clear y0 y1 y2 y3 y4 y5 y6 y7 y8 y9 y10 y11
    obtain ⟨y0, y1, y2, y3, y4, y5, y6, y7, y8, y9, y10, y11⟩ := (HY.out.below Hb4.out (by have := Hs0.out; omega)).ddl
    have Hca := Lib.hid hca; have Ht := Lib.hid ht
    clear hca ht
    go_wp2_with fail
    cases hcb : canD b.p
    · skip
      refine (pprint_no b w4 (HT.out.below Hb4.out) (HB.out.to Hb4.out) Hwb.out hcb).mono ?_
      rintro e w5 ⟨rfl, hb⟩
      have Hb5 := Lib.hid (bthen Hb4.out hb)
      clear hb
      try clear x0 x1 x2 x3 x4 x5 x6 x7 x8 x9 x10 x11
      obtain ⟨x0, x1, x2, x3, x4, x5, x6, x7, x8, x9, x10, x11⟩ := (HX.out.below Hb5.out (by have := Hs0.out; omega)).ddl
      try clear y0 y1 y2 y3 y4 y5 y6 y7 y8 y9 y10 y11
      obtain ⟨y0, y1, y2, y3, y4, y5, y6, y7, y8, y9, y10, y11⟩ := (HY.out.below Hb5.out (by have := Hs0.out; omega)).ddl
      clear hcb
      go_wp2_with fail
      go_ret
      exact ⟨by rw []; rfl, bthen HbW.out Hb5.out⟩
    · obtain ⟨u, hu⟩ : ∃ t, strB (dtx [32] b.p []) = t := ⟨_, rfl⟩
      refine (pprint_yes b w4 u (HT.out.below Hb4.out) (HB.out.to Hb4.out) Hwb.out hcb hu).mono ?_
      rintro e w5 ⟨rfl, hb⟩
      have Hb5 := Lib.hid (bthen Hb4.out hb)
      clear hb
      try clear x0 x1 x2 x3 x4 x5 x6 x7 x8 x9 x10 x11
      obtain ⟨x0, x1, x2, x3, x4, x5, x6, x7, x8, x9, x10, x11⟩ := (HX.out.below Hb5.out (by have := Hs0.out; omega)).ddl
      try clear y0 y1 y2 y3 y4 y5 y6 y7 y8 y9 y10 y11
      obtain ⟨y0, y1, y2, y3, y4, y5, y6, y7, y8, y9, y10, y11⟩ := (HY.out.below Hb5.out (by have := Hs0.out; omega)).ddl
      have heq := apart_eq a b Hca.out hcb Hwa.out Hwb.out
      rw [Ht.out, hu] at heq
      have HS := Lib.hid (rsame9_any a b w5 (HA.out.to Hb5.out) (HB.out.to Hb5.out) Hwa.out.2.2.2.2.2.2.1 Hwb.out.2.2.2.2.2.2.1)
      clear hcb hu
      generalize sameD a b = q at heq HS
      have hqq : (q == q) = true := by cases q <;> rfl
      go_wp2_with fail
      refine HS.out.mono ?_
      rintro e w6 ⟨rfl, hb⟩
      have Hb6 := Lib.hid (bthen Hb5.out hb)
      clear hb
      try clear x0 x1 x2 x3 x4 x5 x6 x7 x8 x9 x10 x11 y0 y1 y2 y3 y4 y5 y6 y7 y8 y9 y10 y11
      cases q
      · go_wp2_with fail
        go_ret
        exact ⟨by rw []; rfl, bthen HbW.out Hb6.out⟩
      · go_wp2_with fail
        go_ret
        exact ⟨by rw []; rfl, bthen HbW.out Hb6.out⟩
theorem walk (a b : Db) (w : World) (hin : InD w a) (hs : SmD a.p) (hin2 : InD w b) (hs2 : SmD b.p) (hL : laidMetH Tryz.prog Rows.ddltextApartRow.laid w) :
    Calls Tryz.prog 6 #[DV a, DV b] w fun e w' => e = .returned (.bool true) ∧ Below w.heap.size w w' :=
  walk_t a b w hin hs hin2 hs2 ⟨utab_of (by kernel_rfl) (by repeat (first | exact List.Mem.head _ | apply List.Mem.tail)) (by repeat (first | exact List.Mem.head _ | apply List.Mem.tail)) hL, ktab_of (by kernel_rfl) (by repeat (first | exact List.Mem.head _ | apply List.Mem.tail)) hL, wtab_of (by kernel_rfl) (by repeat (first | exact List.Mem.head _ | apply List.Mem.tail)) hL⟩
theorem own : ownKnob Tryz.prog.godebug = none := by kernel_rfl
theorem laidOut : laidOutB Tryz.prog = true := by kernel_rfl
theorem door_met (os : Os) (args : Array Value) : laidMetH Tryz.prog Rows.ddltextApartRow.laid ((World.laidAll Tryz.prog os Rows.ddltextApartRow.laid).forCall (fun _ _ => 0) ⟨#[], args, []⟩).memory := by
  rw [MakeChecks.laidMetH_plain _ _ _ (by kernel_rfl)]
  exact laidMet_laidAll args (by kernel_rfl) (by kernel_rfl)
set_option maxRecDepth 100000 in
theorem lifted (os : Os) (started : os.Started) (H : Type) (enc : TypeId × Value → H) :
    ReturnsInHanded {} Tryz.checked os 6 .any (fun w args => (Rows.ddltextApartSpec.pre enc Tryz.prog Tryz.f6 [] false w args ∧ laidMetH Tryz.prog Rows.ddltextApartRow.laid w) ∧ sizedMet enc Tryz.prog Tryz.f6 (OpenSpec.ofChange Rows.ddltextApartSpec) false w args)
      (Rows.ddltextApartSpec.post enc Tryz.prog Tryz.f6 false true false false) := by
  refine returnsInHanded_of_change_and (C := Tryz.checked) (X := fun w _ => laidMetH Tryz.prog Rows.ddltextApartRow.laid w) (fun _ _ _ hh h => h.of_heap hh) own started (by kernel_rfl) Tryz.func6
    (ChangeSpec.witness_shaped (enc := enc) (C := Tryz.checked) (os := os) (X := fun w _ => laidMetH Tryz.prog Rows.ddltextApartRow.laid w) false (World.laidAll Tryz.prog os Rows.ddltextApartRow.laid) #[.agg #[.int .i64 0, .string ByteArray.empty, .string ByteArray.empty, .string ByteArray.empty, .string ByteArray.empty, .int .i64 0, .int .i64 0, .bool false, .int .i64 0, .int .i64 0, .string ByteArray.empty, .slice none 0 0], .agg #[.int .i64 0, .string ByteArray.empty, .string ByteArray.empty, .string ByteArray.empty, .string ByteArray.empty, .int .i64 0, .int .i64 0, .bool false, .int .i64 0, .int .i64 0, .string ByteArray.empty, .slice none 0 0]] 8 (World.laidAll_os _ _ _) (World.shaped_of_ZipB (by kernel_rfl) (by kernel_rfl)) (by kernel_rfl) (by kernel_rfl) (by kernel_rfl) (door_met os _)) ?_
  intro W base args ds gs before hval0 hW hcnd hz0 hL _
  have hval : ∀ (j : Nat) t v, Tryz.f6.params[j]? = some t → args[j]? = some v → Value.okWide Tryz.prog W .any base t v := hval0
  have hz1 := sized_each hz0
  have hW' := hW
  obtain ⟨p, q, hA0, hV, rfl, hfz, hnd⟩ := hW
  have hA : DataW.TrodAll enc Tryz.prog W 0 (fun _ => true) true Tryz.f6.params.toList args.toList ds p := hA0
  rw [Tryz.params6] at hA hval hz1
  obtain ⟨v0, vs0, d0, ds0, p0, q0, hargs, rfl, rfl, h0, r0⟩ := trodAll_cons hA
  obtain ⟨v1, vs1, d1, ds1, p1, q1, rfl, rfl, rfl, h1, r1⟩ := trodAll_cons r0
  obtain ⟨rfl, rfl, rfl⟩ := trodAll_nil r1
  obtain rfl : args = #[v0, v1] := by cases args; simp_all
  obtain ⟨rfl, rfl⟩ := trodVars_none hV
  have k0 := h0
  have lt0 : ∀ x ∈ p0, x.block < W.heap.size := by obtain ⟨m, hm⟩ := k0; exact DataW.trod_lt m _ _ _ hm
  obtain ⟨t0, rfl, w0, z0⟩ := openDDLW (hval 0 28 v0 rfl rfl) h0 (hz1 0 28 d0 rfl rfl)
  have k1 := h1
  have lt1 : ∀ x ∈ p1, x.block < W.heap.size := by obtain ⟨m, hm⟩ := k1; exact DataW.trod_lt m _ _ _ hm
  obtain ⟨t1, rfl, w1, z1⟩ := openDDLW (hval 1 28 v1 rfl rfl) h1 (hz1 1 28 d1 rfl rfl)
  clear hA0 hval0
  refine (walk t0 t1 W w0 z0 w1 z1 hL).mono fun e W' ⟨he, bel⟩ => ?_
  subst he
  exact ⟨_, rfl, _, _, _, [], _, [], hW', trodAll_mk1 (shut_bool Tryz.underlying4 _), (trodAll_cons_mk (Below.trod laidOut (by kernel_rfl) (of_decide_eq_true (by kernel_rfl)) k0 bel lt0) (trodAll_cons_mk (Below.trod laidOut (by kernel_rfl) (of_decide_eq_true (by kernel_rfl)) k1 bel lt1) trodAll_mk0)), rfl, bel.frame _, fun h => by cases h⟩

theorem over : Rows.DdltextApartSaid :=
  OpenClaim.holds_of_wide 6 Tryz.f6 rfl rfl rfl rfl rfl rfl rfl ⟨rfl, rfl, rfl, rfl, rfl⟩ rfl rfl rfl rfl rfl (by kernel_rfl) Tryz.func6 (by kernel_rfl)
    (of_decide_eq_true (by kernel_rfl)) (by unfold Func.isWrapper; first | (rw [if_pos (by decide +kernel)]; kernel_rfl) | (rw [if_neg (by decide +kernel)]; exact ⟨rfl, rfl⟩))
    (fun os started H enc _ => lifted os started H enc)

/-- the given statement: the card -/
theorem proved : Rows.DdltextApartCardSaid :=
  Claim7.holds_tied_plain_at .later [] [.data, .data, .data, .data, .data, .pinned] true (true, "0cb059bcbcc0aca0d26491598ff56dcbb5a3f1857b9cdcd3953b8b2bd2b7305c") true
    over (fun _ h => by cases h) (by kernel_rfl) (fun _ h => by cases h) ddltextApart_row_tie rfl ⟨rfl, rfl⟩ (by kernel_rfl) rfl
    (fun f fn hf hfn => by
      obtain rfl : f = 6 := Option.some.inj ((show Tryz.prog.funcNamed "haulage/haulagelaw10.DdltextApart" = some 6 by kernel_rfl).symm.trans hf) |>.symm
      obtain rfl : fn = Tryz.f6 := (Option.some.inj (Tryz.func6.symm.trans hfn)).symm
      exact ⟨by kernel_rfl, fun j t ht => by
        rw [Tryz.params6] at ht
        have hm : t ∈ [28, 28] := by simpa using Array.mem_of_getElem? ht
        have hall : ([28, 28].all fun u => !Tryz.prog.wantsStandIn u) = true := by kernel_rfl
        exact (show Tryz.prog.wantsStandIn t = false by simpa using List.all_eq_true.1 hall t hm)⟩)
    (by kernel_rfl)
#print axioms proved
end Go.Proofs.YtebldfnocpcddaaGreatDoor.ddltextApart
