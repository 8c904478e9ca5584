/-
  DdlApplies: for every catalog, every change and every number the law returns true: any catalog behind any change, or why it may not be done, is what the page says; it is right. No condition but that the two tables of package utf read as the program's text lays them (tied by the card).
-/
import Derived.Test.YthmjgaekcghonaaGreatDoorDdlRefAppC
import Derived.Test.YthmjgaekcghonaaGreatDoorDdlLivesC
import Derived.Test.YthmjgaekcghonaaGreatDoorTie
import Derived.Test.YthmjgaekcghonaaGreatDoorCards
import Derived.ProofKit
import Derived.OpenShut
import Derived.ShutString
import Derived.ChangeOld
import Derived.LaidMore
import Derived.SevenTiedAt
import Derived.Test.YthmjgaekcghonaaGreatDoorPart1
import Derived.Test.YthmjgaekcghonaaGreatDoorPart2
import Derived.Test.YthmjgaekcghonaaGreatDoorPart3
import Derived.Test.YthmjgaekcghonaaGreatDoorPart4
import Derived.Test.YthmjgaekcghonaaGreatDoorPart5
import Derived.Test.YthmjgaekcghonaaGreatDoorPart6
import Derived.Test.YthmjgaekcghonaaGreatDoorPart7
import Derived.Test.YthmjgaekcghonaaGreatDoorPart8
import Derived.Test.YthmjgaekcghonaaGreatDoorPart9
import Derived.Test.YthmjgaekcghonaaGreatDoorPart10
import Derived.Test.YthmjgaekcghonaaGreatDoorPart11
namespace Go.Proofs.YthmjgaekcghonaaGreatDoor.ddlApplies
open Go.ChangeShapes Go.WideShapes Go.ChangeAt Go.RowKit
open Go.ChangeMaps (open_string shut_string)

/-- the boxes of a catalog and a change -/
theorem box_cd (w : World) (v : Value) (d : Db) : ∃ w0, (w.alloc (.cells #[v] 24)).alloc (.cells #[.int .i64 d.p.op, .string d.p.tb, .string d.p.co, .string d.p.to, .string d.p.key, .int .i64 d.p.tk, .int .i64 d.p.tm, .bool d.p.nl, .int .i64 d.p.dk, .int .i64 d.p.dn, .string d.p.ds, .slice d.A d.p.cols.length d.cap] 31) = w0 ∧
    Below w.heap.size w w0 ∧ BlkN w0 w.heap.size [v] ∧ BlkN w0 (w.heap.size + 1) (fD d) ∧ w0.heap.size = w.heap.size + 2 :=
  ⟨_, rfl, below_two w _ _, (BlkN.new w _ [v] _ rfl).alloc (by simp) _, BlkN.new _ _ (fD d) _ (by simp), by simp⟩
set_option maxRecDepth 100000 in
set_option maxHeartbeats 6400000 in
theorem walk_t (A : Option Addr) (cap : Nat) (l : List Tb) (d : Db) (id : Int) (w : World) (hc : TabsIn w A cap l) (hin : InD w d) (hs : SmD d.p) (ht : UTab w) :
    Calls Tryz.prog 3 #[.agg #[.slice A l.length cap], DV d, .int .i64 id] w fun e w' => e = .returned (.bool true) ∧ Below w.heap.size w w' := by
  obtain ⟨w0, hw0, hb0, hC, hX, hs0⟩ := box_cd w (.slice A l.length cap) d
  have Hw0 := Lib.hid hw0; clear hw0
  have HbW := Lib.hid hb0
  have HC := Lib.hid hC; clear hC
  have HX := Lib.hid hX; clear hX
  have Hs0 := Lib.hid hs0; clear hs0
  have HL := Lib.hid (hc.2.2.1.to hb0)
  have HA := Lib.hid (DdlAt.to hin.2.2.2.2.2.2.2.2.2.2.2.2.1 hb0)
  have HT := Lib.hid (ht.below hb0 (Nat.le_refl _)); clear ht hb0
  have HLv := Lib.hid (lives9_any w0 HT.out)
  have HFc := Lib.hid (fun w' h => fewcat_any A cap l w' h hc.1 (fun t ht => (hc.2.2.2 t ht).2.2.2.2.1))
  have HFa := Lib.hid (fun w' h => few9_any d w' h hin.2.2.2.2.2.2.2.2.2.2.1 hs)
  have HWa := Lib.hid (fun h => WfD_of (d := d) h hin)
  have HWc : Hid (fewCat l = true → l.length ≤ 10 ∧ ∀ t ∈ l, WfT t) := fun hf => by
    unfold fewCat at hf
    simp only [Bool.and_eq_true, decide_eq_true_eq, List.all_eq_true] at hf
    exact ⟨by omega, fun t ht => WfT_of (hf.2 t ht) (hc.2.2.2 t ht)⟩
  have Hcap := Lib.hid hc.2.1
  clear hin hs hc
  go_enter Tryz.func3, Tryz.ntmps3
  go_wp2_with fail
  try rw [Hw0.out]
  refine (HLv.out).mono ?_
  rintro e w1 ⟨rfl, hb⟩
  have Hb1 := Lib.hid hb
  clear hb
  try clear c0
  have c0 := (HC.out.below Hb1.out (by have := Hs0.out; omega)).one
  try clear x0 x1 x2 x3 x4 x5 x6 x7 x8 x9 x10 x11
  obtain ⟨x0, x1, x2, x3, x4, x5, x6, x7, x8, x9, x10, x11⟩ := (HX.out.below Hb1.out (by have := Hs0.out; omega)).ddl
  go_wp2_with fail
  refine (HFc.out w1 (HL.out.to Hb1.out)).mono ?_
  rintro e w2 ⟨rfl, hb⟩
  have Hb2 := Lib.hid (bthen Hb1.out hb)
  clear hb
  try clear c0
  have c0 := (HC.out.below Hb2.out (by have := Hs0.out; omega)).one
  try clear x0 x1 x2 x3 x4 x5 x6 x7 x8 x9 x10 x11
  obtain ⟨x0, x1, x2, x3, x4, x5, x6, x7, x8, x9, x10, x11⟩ := (HX.out.below Hb2.out (by have := Hs0.out; omega)).ddl
  cases hfc : fewCat l
  · go_wp2_with fail
    go_ret
    exact ⟨by rw []; rfl, bthen HbW.out Hb2.out⟩
  go_wp2_with fail
  refine (HFa.out w2 (HA.out.to Hb2.out)).mono ?_
  rintro e w3 ⟨rfl, hb⟩
  have Hb3 := Lib.hid (bthen Hb2.out hb)
  clear hb
  try clear c0
  have c0 := (HC.out.below Hb3.out (by have := Hs0.out; omega)).one
  try clear x0 x1 x2 x3 x4 x5 x6 x7 x8 x9 x10 x11
  obtain ⟨x0, x1, x2, x3, x4, x5, x6, x7, x8, x9, x10, x11⟩ := (HX.out.below Hb3.out (by have := Hs0.out; omega)).ddl
  cases hfa : fewD d.p
  · go_wp2_with fail
    go_ret
    exact ⟨by rw []; rfl, bthen HbW.out Hb3.out⟩
  have Hwa := Lib.hid (HWa.out hfa)
  have Hwc := Lib.hid (HWc.out hfc)
  clear hfa hfc HWa HWc HFa HFc HLv
  have H64 := Lib.hid (w64_to Hwc.out.2)
  have HAp := Lib.hid (fun X (hX : Below w0.heap.size w0 X) => apply_any A cap l d id X (HT.out.below hX (Nat.le_refl _)) (HL.out.to hX) Hwc.out.2 (by have := Hwc.out.1; omega) Hcap.out (HA.out.to hX) Hwa.out)
  have HRp := Lib.hid (fun X (hX : Below w0.heap.size w0 X) => rapply_any A cap l d id X (HL.out.to hX) Hwc.out.2 (by have := Hwc.out.1; omega) (HA.out.to hX) Hwa.out)
  obtain ⟨E, hE⟩ : ∃ E, applyE (l.map Tb.p) d.p id = E := ⟨_, rfl⟩
  rw [hE] at HAp
  have HE := Lib.hid hE; clear hE
  go_wp2_with fail
  refine (HAp.out w3 Hb3.out).mono ?_
  rintro e w4 ⟨A1, c1, l1, rfl, hc1, hp1, hb⟩
  have Hb4 := Lib.hid (bthen Hb3.out hb)
  have Hp1 := Lib.hid hp1
  obtain ⟨w5, hw5, hb5, hx5, hs5⟩ := box_one' w4 (.slice A1 l1.length c1) 24
  have Hw5 := Lib.hid hw5; clear hw5
  have Hb5 := Lib.hid (bthen Hb4.out hb5)
  have Hc1 := Lib.hid (show CatAt w5 A1 c1 l1 from ⟨hc1.1.to hb5, hc1.2⟩)
  have Hx5 := Lib.hid hx5
  have Hs5 := Lib.hid hs5
  clear hb hb5 hx5 hs5 hc1 hp1 HAp c0 x0 x1 x2 x3 x4 x5 x6 x7 x8 x9 x10 x11
  go_upto_region 6 with fail
  rw [Hw5.out]
  try clear c0
  have c0 := (HC.out.below Hb5.out (by have := Hs0.out; omega)).one
  try clear x0 x1 x2 x3 x4 x5 x6 x7 x8 x9 x10 x11
  obtain ⟨x0, x1, x2, x3, x4, x5, x6, x7, x8, x9, x10, x11⟩ := (HX.out.below Hb5.out (by have := Hs0.out; omega)).ddl
  go_wp2_with fail
  refine (HRp.out w5 Hb5.out).mono ?_
  rintro e w6 ⟨A2, c2, l2, rfl, hc2, hp2, hb⟩
  rw [HE.out]
  have Hd6 := Lib.hid hb
  have Hp2 := Lib.hid hp2
  obtain ⟨w7, hw7, hb7, hx7, hs7⟩ := box_one' w6 (.slice A2 l2.length c2) 24
  have Hw7 := Lib.hid hw7; clear hw7
  have Hd7 := Lib.hid (bthen hb hb7)
  have Hb7 := Lib.hid (bthen Hb5.out Hd7.out)
  have Hc2 := Lib.hid (show CatAt w7 A2 c2 l2 from ⟨hc2.1.to hb7, hc2.2⟩)
  have Hc17 := Lib.hid (show TabsAt w7 w7.heap.size A1 l1 from Hc1.out.1.to Hd7.out)
  have Hx7 := Lib.hid hx7
  clear hb hb7 hx7 hs7 hc2 hp2 HRp c0 x0 x1 x2 x3 x4 x5 x6 x7 x8 x9 x10 x11
  obtain ⟨hl1, hw1, _⟩ := wf_apply H64.out Hwa.out Hc1.out Hp1.out
  obtain ⟨hl2, hw2, _⟩ := wf_apply H64.out Hwa.out Hc2.out Hp2.out
  have HS := Lib.hid (rsamecat_any A1 A2 c1 c2 l1 l2 w7 Hc17.out Hc2.out.1 (by omega) (by omega) hw1 hw2)
  rw [pair_p (Hp1.out.trans Hp2.out.symm)] at HS
  have Hw1 := Lib.hid hw1
  clear hw1 hw2 hl2
  go_upto_region 7 with fail
  rw [Hw7.out]
  have u0 : w7.cell? ⟨w4.heap.size, 0, none⟩ = some (.slice A1 l1.length c1) := (Hd7.out.cell (p := ⟨w4.heap.size, 0, none⟩) (by have := Hs5.out; show w4.heap.size < _; omega)).trans Hx5.out
  have u1 := Hx7.out
  have qE : (E != E) = false := by simp
  have qE' : (E == E) = true := by simp
  go_wp2_with fail
  refine HS.out.mono ?_
  rintro e w8 ⟨rfl, hb8⟩
  have U0 := Lib.hid ((hb8.cell (World.block_lt_of_cell? _ _ u0)).trans u0)
  have Hd8 := Lib.hid (bthen Hd7.out hb8)
  have Hb8 := Lib.hid (bthen Hb7.out hb8)
  clear u0 u1 hb8 HS
  have u0 := U0.out
  by_cases h0 : E = 0
  · subst h0
    have HRc := Lib.hid (rrcat_any A1 c1 l1 w8 (Hc1.out.1.to Hd8.out) Hw1.out (by omega))
    rw [right_of_apply H64.out Hp1.out HE.out] at HRc
    go_wp2_with fail
    refine HRc.out.mono ?_
    rintro e w9 ⟨rfl, hb9⟩
    have Hb9 := Lib.hid (bthen Hb8.out hb9); clear hb9 u0
    go_wp2_with fail
    go_ret
    exact ⟨rfl, bthen HbW.out Hb9.out⟩
  · have q1 : (E == 0) = false := by simpa using h0
    have q2 : (E != 0) = true := by simpa using h0
    clear h0
    go_wp2_with fail
    go_ret
    exact ⟨rfl, bthen HbW.out Hb8.out⟩
theorem walk (A : Option Addr) (cap : Nat) (l : List Tb) (d : Db) (id : Int) (w : World) (hc : TabsIn w A cap l) (hin : InD w d) (hs : SmD d.p) (_hi : (Lit.int .i64 id).wf = true) (hL : laidMetH Tryz.prog Rows.ddlAppliesRow.laid w) :
    Calls Tryz.prog 3 #[.agg #[.slice A l.length cap], DV d, .int .i64 id] w fun e w' => e = .returned (.bool true) ∧ Below w.heap.size w w' :=
  walk_t A cap l d id w hc hin hs (utab_of (by kernel_rfl) (by repeat (first | exact List.Mem.head _ | apply List.Mem.tail)) (by repeat (first | exact List.Mem.head _ | apply List.Mem.tail)) hL)
theorem own : ownKnob Tryz.prog.godebug = none := by kernel_rfl
theorem laidOut : laidOutB Tryz.prog = true := by kernel_rfl
theorem door_met (os : Os) (args : Array Value) : laidMetH Tryz.prog Rows.ddlAppliesRow.laid ((World.doorLaid Tryz.prog 19 os).forCall (fun _ _ => 0) ⟨#[], args, []⟩).memory :=
  laidMetH_of_parts3 (fuel := 8) (laidMet_of_run' 8 (by kernel_rfl) (by kernel_rfl)) (by kernel_rfl) (by kernel_rfl)
set_option maxRecDepth 100000 in
theorem lifted (os : Os) (started : os.Started) (H : Type) (enc : TypeId × Value → H) :
    ReturnsInHanded {} Tryz.checked os 3 .any (fun w args => (Rows.ddlAppliesSpec.pre enc Tryz.prog Tryz.f3 [] false w args ∧ laidMetH Tryz.prog Rows.ddlAppliesRow.laid w) ∧ sizedMet enc Tryz.prog Tryz.f3 (OpenSpec.ofChange Rows.ddlAppliesSpec) false w args)
      (Rows.ddlAppliesSpec.post enc Tryz.prog Tryz.f3 false true false false) := by
  refine returnsInHanded_of_change_and (C := Tryz.checked) (X := fun w _ => laidMetH Tryz.prog Rows.ddlAppliesRow.laid w) (fun _ _ _ hh h => h.of_heap hh) own started (by kernel_rfl) Tryz.func3
    (ChangeSpec.witness_shaped (enc := enc) (C := Tryz.checked) (os := os) (X := fun w _ => laidMetH Tryz.prog Rows.ddlAppliesRow.laid w) false (World.doorLaid Tryz.prog 19 os) #[.agg #[.slice none 0 0], .agg #[.int .i64 0, .string ByteArray.empty, .string ByteArray.empty, .string ByteArray.empty, .string ByteArray.empty, .int .i64 0, .int .i64 0, .bool false, .int .i64 0, .int .i64 0, .string ByteArray.empty, .slice none 0 0], .int .i64 0] 8 rfl (World.shaped_of_RefB (by kernel_rfl) (by kernel_rfl)) (by kernel_rfl) (by kernel_rfl) (by kernel_rfl) (door_met os _)) ?_
  intro W base args ds gs before hval0 hW hcnd hz0 hL _
  have hval : ∀ (j : Nat) t v, Tryz.f3.params[j]? = some t → args[j]? = some v → Value.okWide Tryz.prog W .any base t v := hval0
  have hz1 := sized_each hz0
  have hW' := hW
  obtain ⟨p, q, hA0, hV, rfl, hfz, hnd⟩ := hW
  have hA : DataW.TrodAll enc Tryz.prog W 0 (fun _ => true) true Tryz.f3.params.toList args.toList ds p := hA0
  rw [Tryz.params3] at hA hval hz1
  obtain ⟨v0, vs0, d0, ds0, p0, q0, hargs, rfl, rfl, h0, r0⟩ := trodAll_cons hA
  obtain ⟨v1, vs1, d1, ds1, p1, q1, rfl, rfl, rfl, h1, r1⟩ := trodAll_cons r0
  obtain ⟨v2, vs2, d2, ds2, p2, q2, rfl, rfl, rfl, h2, r2⟩ := trodAll_cons r1
  obtain ⟨rfl, rfl, rfl⟩ := trodAll_nil r2
  obtain rfl : args = #[v0, v1, v2] := by cases args; simp_all
  obtain ⟨rfl, rfl⟩ := trodVars_none hV
  have k0 := h0
  have lt0 : ∀ x ∈ p0, x.block < W.heap.size := by obtain ⟨m, hm⟩ := k0; exact DataW.trod_lt m _ _ _ hm
  obtain ⟨a0, cap0, l0, rfl, w0⟩ := openCat (hval 0 24 v0 rfl rfl) h0
  have k1 := h1
  have lt1 : ∀ x ∈ p1, x.block < W.heap.size := by obtain ⟨m, hm⟩ := k1; exact DataW.trod_lt m _ _ _ hm
  obtain ⟨t1, rfl, w1, z1⟩ := openDDLW (hval 1 31 v1 rfl rfl) h1 (hz1 1 31 d1 rfl rfl)
  obtain ⟨a2, rfl, rfl, rfl, w2⟩ := open_int Tryz.underlying3 (hval 2 3 v2 rfl rfl) h2
  clear hA0 hval0
  refine (walk a0 cap0 l0 t1 a2 W w0 w1 z1 w2 hL).mono fun e W' ⟨he, bel⟩ => ?_
  subst he
  exact ⟨_, rfl, _, _, _, [], _, [], hW', trodAll_mk1 (shut_bool Tryz.underlying4 _), (trodAll_cons_mk (Below.trod laidOut (by kernel_rfl) (of_decide_eq_true (by kernel_rfl)) k0 bel lt0) (trodAll_cons_mk (Below.trod laidOut (by kernel_rfl) (of_decide_eq_true (by kernel_rfl)) k1 bel lt1) (trodAll_cons_mk (shut_int Tryz.underlying3 w2) trodAll_mk0))), rfl, bel.frame _, fun h => by cases h⟩

theorem over : Rows.DdlAppliesSaid :=
  OpenClaim.holds_of_wide 3 Tryz.f3 rfl rfl rfl rfl rfl rfl rfl ⟨rfl, rfl, rfl, rfl, rfl⟩ rfl rfl rfl rfl rfl (by kernel_rfl) Tryz.func3 (by kernel_rfl)
    (of_decide_eq_true (by kernel_rfl)) (by unfold Func.isWrapper; first | (rw [if_pos (by decide +kernel)]; kernel_rfl) | (rw [if_neg (by decide +kernel)]; exact ⟨rfl, rfl⟩))
    (fun os started H enc _ => lifted os started H enc)

/-- the given statement: the card -/
theorem proved : Rows.DdlAppliesCardSaid :=
  Claim7.holds_tied_plain_at .later [] [.data, .data] true (true, "ee93dac4a9382dbe582cd5452d1c9755a2f78c0ac92dbc05ceb6687aedc986b0") false
    over (fun _ h => by cases h) (by kernel_rfl) (fun _ h => by cases h) ddlApplies_row_tie rfl ⟨rfl, rfl⟩ (by kernel_rfl) rfl
    (fun f fn hf hfn => by
      obtain rfl : f = 3 := Option.some.inj ((show Tryz.prog.funcNamed "haulage/haulagelaw09.DdlApplies" = some 3 by kernel_rfl).symm.trans hf) |>.symm
      obtain rfl : fn = Tryz.f3 := (Option.some.inj (Tryz.func3.symm.trans hfn)).symm
      exact ⟨by kernel_rfl, fun j t ht => by
        rw [Tryz.params3] at ht
        have hm : t ∈ [24, 31, 3] := by simpa using Array.mem_of_getElem? ht
        have hall : ([24, 31, 3].all fun u => !Tryz.prog.wantsStandIn u) = true := by kernel_rfl
        exact (show Tryz.prog.wantsStandIn t = false by simpa using List.all_eq_true.1 hall t hm)⟩)
    (by kernel_rfl)
#print axioms proved
end Go.Proofs.YthmjgaekcghonaaGreatDoor.ddlApplies
