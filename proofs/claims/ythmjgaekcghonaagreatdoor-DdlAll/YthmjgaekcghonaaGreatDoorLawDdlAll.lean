/-
  DdlAll: for every catalog, every list of changes and every first number the law returns true: any catalog behind any changes, one behind the other, or which one may not be done, is what the page says. No condition but that the two tables of package utf read as the program's text lays them (tied by the card).
-/
import Derived.Test.YthmjgaekcghonaaGreatDoorDdlRefAllC
import Derived.Test.YthmjgaekcghonaaGreatDoorDdlAllC
import Derived.Test.YthmjgaekcghonaaGreatDoorDdlLivesC
import Derived.Test.YthmjgaekcghonaaGreatDoorTie
import Derived.Test.YthmjgaekcghonaaGreatDoorCards
import Derived.ProofKit
import Derived.OpenShut
import Derived.ShutString
import Derived.ChangeOld
import Derived.LaidMore
import Derived.SevenTiedAt
import Derived.Test.YthmjgaekcghonaaGreatDoorPart1
import Derived.Test.YthmjgaekcghonaaGreatDoorPart2
import Derived.Test.YthmjgaekcghonaaGreatDoorPart3
import Derived.Test.YthmjgaekcghonaaGreatDoorPart4
import Derived.Test.YthmjgaekcghonaaGreatDoorPart5
import Derived.Test.YthmjgaekcghonaaGreatDoorPart6
import Derived.Test.YthmjgaekcghonaaGreatDoorPart7
import Derived.Test.YthmjgaekcghonaaGreatDoorPart8
import Derived.Test.YthmjgaekcghonaaGreatDoorPart9
import Derived.Test.YthmjgaekcghonaaGreatDoorPart10
import Derived.Test.YthmjgaekcghonaaGreatDoorPart11
namespace Go.Proofs.YthmjgaekcghonaaGreatDoor.ddlAll
open Go.ChangeShapes Go.WideShapes Go.ChangeAt Go.RowKit
open Go.ChangeMaps (open_string shut_string)

set_option maxRecDepth 100000 in
set_option maxHeartbeats 6400000 in
theorem walk_t (A : Option Addr) (cap : Nat) (l : List Tb) (Al : Option Addr) (cl : Nat) (ds : List Db) (first : Int) (w : World) (hc : TabsIn w A cap l) (hd : DdlsIn w Al cl ds) (hs : ∀ d ∈ ds, SmD d.p) (hf : -9223372036854775808 ≤ first ∧ first < 9223372036854775808) (ht : UTab w) :
    Calls Tryz.prog 4 #[.agg #[.slice A l.length cap], .slice Al ds.length cl, .int .i64 first] w fun e w' => e = .returned (.bool true) ∧ Below w.heap.size w w' := by
  obtain ⟨w0, hw0, hb0, hC, hs0⟩ := box_one w (.slice A l.length cap) 24
  have Hw0 := Lib.hid hw0; clear hw0
  have HbW := Lib.hid hb0
  have HC := Lib.hid hC; clear hC
  have Hs0 := Lib.hid hs0; clear hs0
  have HL := Lib.hid (hc.2.2.1.to hb0)
  have HDs : Hid (∀ X, Below w0.heap.size w0 X → DdlsAt X X.heap.size Al ds) := fun X hX => (hd.2.2.1.to hb0).to hX
  have HT := Lib.hid (ht.below hb0 (Nat.le_refl _)); clear ht hb0
  have HLv := Lib.hid (lives9_any w0 HT.out)
  have HFc := Lib.hid (fun w' h => fewcat_any A cap l w' h hc.1 (fun t ht => (hc.2.2.2 t ht).2.2.2.2.1))
  have HFd := Lib.hid (fun w' h => fewl9_any Al cl ds w' h hd.1 (fun d hdm => ⟨(hd.2.2.2 d hdm).2.2.2.2.2.2.2.2.2.2.1, hs d hdm⟩))
  have HWc : Hid (fewCat l = true → l.length ≤ 10 ∧ ∀ t ∈ l, WfT t) := fun hf => by
    unfold fewCat at hf
    simp only [Bool.and_eq_true, decide_eq_true_eq, List.all_eq_true] at hf
    exact ⟨by omega, fun t ht => WfT_of (hf.2 t ht) (hc.2.2.2 t ht)⟩
  have HWd : Hid (fewL ds = true → ds.length ≤ 20 ∧ ∀ d ∈ ds, WfD d.p) := fun hf => by
    unfold fewL at hf
    simp only [Bool.and_eq_true, decide_eq_true_eq, List.all_eq_true] at hf
    exact ⟨by omega, fun d hdm => WfD_of (hf.2 d hdm) (hd.2.2.2 d hdm)⟩
  have Hcap := Lib.hid hc.2.1
  have Hf := Lib.hid hf
  clear hc hd hs hf
  go_enter Tryz.func4, Tryz.ntmps4
  go_wp2_with fail
  try rw [Hw0.out]
  refine (HLv.out).mono ?_
  rintro e w1 ⟨rfl, hb⟩
  have Hb1 := Lib.hid hb
  clear hb
  try clear c0
  have c0 := (HC.out.below Hb1.out (by have := Hs0.out; omega)).one
  go_wp2_with fail
  refine (HFc.out w1 (HL.out.to Hb1.out)).mono ?_
  rintro e w2 ⟨rfl, hb⟩
  have Hb2 := Lib.hid (bthen Hb1.out hb)
  clear hb
  try clear c0
  have c0 := (HC.out.below Hb2.out (by have := Hs0.out; omega)).one
  cases hfc : fewCat l
  · go_wp2_with fail
    go_ret
    exact ⟨by rw []; rfl, bthen HbW.out Hb2.out⟩
  go_wp2_with fail
  refine (HFd.out w2 (HDs.out _ Hb2.out)).mono ?_
  rintro e w3 ⟨rfl, hb⟩
  have Hb3 := Lib.hid (bthen Hb2.out hb)
  clear hb
  try clear c0
  have c0 := (HC.out.below Hb3.out (by have := Hs0.out; omega)).one
  cases hfd : fewL ds
  · go_wp2_with fail
    go_ret
    exact ⟨by rw []; rfl, bthen HbW.out Hb3.out⟩
  have Hwc := Lib.hid (HWc.out hfc)
  have Hwd := Lib.hid (HWd.out hfd)
  clear hfc hfd HWc HWd HFc HFd HLv
  have HAp := Lib.hid (fun X (hX : Below w0.heap.size w0 X) => all9_any A cap l Al cl ds first X (HT.out.below hX (Nat.le_refl _)) (HL.out.to hX) Hwc.out.2 (by have := Hwc.out.1; omega) (HDs.out X hX) Hwd.out.2 (by have := Hwd.out.1; omega) Hf.out.1 (by have := Hf.out.2; omega))
  have HRp := Lib.hid (fun X (hX : Below w0.heap.size w0 X) => rall9_any A cap l Al cl ds first X (HL.out.to hX) Hwc.out.2 (by have := Hwc.out.1; omega) Hcap.out (HDs.out X hX) Hwd.out.2 (by have := Hwd.out.1; omega) Hf.out.1 (by have := Hf.out.2; omega))
  generalize allD (l.map Tb.p) first 0 (ds.map Db.p) = R at HAp HRp
  obtain ⟨RL, N, E⟩ := R
  go_wp2_with fail
  refine (HAp.out w3 Hb3.out).mono ?_
  rintro e w4 ⟨A1, c1, l1, rfl, hc1, hp1, hq1, hb⟩
  have Hb4 := Lib.hid (bthen Hb3.out hb)
  have Hp1 := Lib.hid hp1
  have Hq1 := Lib.hid hq1
  obtain ⟨w5, hw5, hb5, hx5, hs5⟩ := box_one' w4 (.slice A1 l1.length c1) 24
  have Hw5 := Lib.hid hw5; clear hw5
  have Hb5 := Lib.hid (bthen Hb4.out hb5)
  have Hc1 := Lib.hid (show CatAt w5 A1 c1 l1 from ⟨hc1.1.to hb5, hc1.2⟩)
  have Hx5 := Lib.hid hx5
  have Hs5 := Lib.hid hs5
  clear hb hb5 hx5 hs5 hc1 hp1 hq1 HAp c0
  dsimp only
  go_upto_region 6 with fail
  rw [Hw5.out]
  try clear c0
  have c0 := (HC.out.below Hb5.out (by have := Hs0.out; omega)).one
  go_wp2_with fail
  refine (HRp.out w5 Hb5.out).mono ?_
  rintro e w6 ⟨A2, c2, l2, rfl, hc2, hp2, hq2, hb⟩
  have Hd6 := Lib.hid hb
  have Hp2 := Lib.hid hp2
  obtain ⟨w7, hw7, hb7, hx7, hs7⟩ := box_one' w6 (.slice A2 l2.length c2) 24
  have Hw7 := Lib.hid hw7; clear hw7
  have Hd7 := Lib.hid (bthen hb hb7)
  have Hb7 := Lib.hid (bthen Hb5.out Hd7.out)
  have Hc2 := Lib.hid (show CatAt w7 A2 c2 l2 from ⟨hc2.1.to hb7, hc2.2⟩)
  have Hc17 := Lib.hid (show TabsAt w7 w7.heap.size A1 l1 from Hc1.out.1.to Hd7.out)
  have Hx7 := Lib.hid hx7
  have HS := Lib.hid (rsamecat_any A1 A2 c1 c2 l1 l2 w7 Hc17.out Hc2.out.1 Hq1.out.1 hq2.1 Hq1.out.2 hq2.2)
  rw [pair_p (Hp1.out.trans Hp2.out.symm)] at HS
  clear hb hb7 hx7 hs7 hc2 hp2 hq2 HRp c0
  dsimp only
  go_upto_region 7 with fail
  rw [Hw7.out]
  have u0 : w7.cell? ⟨w4.heap.size, 0, none⟩ = some (.slice A1 l1.length c1) := (Hd7.out.cell (p := ⟨w4.heap.size, 0, none⟩) (by have := Hs5.out; show w4.heap.size < _; omega)).trans Hx5.out
  have u1 := Hx7.out
  have qE' : (E == E) = true := by simp
  have qN' : ((N : Int) == (N : Int)) = true := by simp
  go_wp2_with fail
  refine HS.out.mono ?_
  rintro e w8 ⟨rfl, hb8⟩
  have Hb8 := Lib.hid (bthen Hb7.out hb8)
  clear u0 u1 hb8 HS
  go_wp2_with fail
  go_ret
  exact ⟨rfl, bthen HbW.out Hb8.out⟩
theorem walk (A : Option Addr) (cap : Nat) (l : List Tb) (Al : Option Addr) (cl : Nat) (ds : List Db) (first : Int) (w : World) (hc : TabsIn w A cap l) (hd : DdlsIn w Al cl ds) (hs : ∀ d ∈ ds, SmD d.p) (hf : (Lit.int .i64 first).wf = true) (hL : laidMetH Tryz.prog Rows.ddlAllRow.laid w) :
    Calls Tryz.prog 4 #[.agg #[.slice A l.length cap], .slice Al ds.length cl, .int .i64 first] w fun e w' => e = .returned (.bool true) ∧ Below w.heap.size w w' :=
  walk_t A cap l Al cl ds first w hc hd hs (wf64 hf) (utab_of (by kernel_rfl) (by repeat (first | exact List.Mem.head _ | apply List.Mem.tail)) (by repeat (first | exact List.Mem.head _ | apply List.Mem.tail)) hL)
theorem own : ownKnob Tryz.prog.godebug = none := by kernel_rfl
theorem laidOut : laidOutB Tryz.prog = true := by kernel_rfl
theorem door_met (os : Os) (args : Array Value) : laidMetH Tryz.prog Rows.ddlAllRow.laid ((World.doorLaid Tryz.prog 19 os).forCall (fun _ _ => 0) ⟨#[], args, []⟩).memory :=
  laidMetH_of_parts3 (fuel := 8) (laidMet_of_run' 8 (by kernel_rfl) (by kernel_rfl)) (by kernel_rfl) (by kernel_rfl)
set_option maxRecDepth 100000 in
theorem lifted (os : Os) (started : os.Started) (H : Type) (enc : TypeId × Value → H) :
    ReturnsInHanded {} Tryz.checked os 4 .any (fun w args => (Rows.ddlAllSpec.pre enc Tryz.prog Tryz.f4 [] false w args ∧ laidMetH Tryz.prog Rows.ddlAllRow.laid w) ∧ sizedMet enc Tryz.prog Tryz.f4 (OpenSpec.ofChange Rows.ddlAllSpec) false w args)
      (Rows.ddlAllSpec.post enc Tryz.prog Tryz.f4 false true false false) := by
  refine returnsInHanded_of_change_and (C := Tryz.checked) (X := fun w _ => laidMetH Tryz.prog Rows.ddlAllRow.laid w) (fun _ _ _ hh h => h.of_heap hh) own started (by kernel_rfl) Tryz.func4
    (ChangeSpec.witness_shaped (enc := enc) (C := Tryz.checked) (os := os) (X := fun w _ => laidMetH Tryz.prog Rows.ddlAllRow.laid w) false (World.doorLaid Tryz.prog 19 os) #[.agg #[.slice none 0 0], .slice none 0 0, .int .i64 0] 8 rfl (World.shaped_of_RefB (by kernel_rfl) (by kernel_rfl)) (by kernel_rfl) (by kernel_rfl) (by kernel_rfl) (door_met os _)) ?_
  intro W base args ds gs before hval0 hW hcnd hz0 hL _
  have hval : ∀ (j : Nat) t v, Tryz.f4.params[j]? = some t → args[j]? = some v → Value.okWide Tryz.prog W .any base t v := hval0
  have hz1 := sized_each hz0
  have hW' := hW
  obtain ⟨p, q, hA0, hV, rfl, hfz, hnd⟩ := hW
  have hA : DataW.TrodAll enc Tryz.prog W 0 (fun _ => true) true Tryz.f4.params.toList args.toList ds p := hA0
  rw [Tryz.params4] at hA hval hz1
  obtain ⟨v0, vs0, d0, ds0, p0, q0, hargs, rfl, rfl, h0, r0⟩ := trodAll_cons hA
  obtain ⟨v1, vs1, d1, ds1, p1, q1, rfl, rfl, rfl, h1, r1⟩ := trodAll_cons r0
  obtain ⟨v2, vs2, d2, ds2, p2, q2, rfl, rfl, rfl, h2, r2⟩ := trodAll_cons r1
  obtain ⟨rfl, rfl, rfl⟩ := trodAll_nil r2
  obtain rfl : args = #[v0, v1, v2] := by cases args; simp_all
  obtain ⟨rfl, rfl⟩ := trodVars_none hV
  have k0 := h0
  have lt0 : ∀ x ∈ p0, x.block < W.heap.size := by obtain ⟨m, hm⟩ := k0; exact DataW.trod_lt m _ _ _ hm
  obtain ⟨a0, cap0, l0, rfl, w0⟩ := openCat (hval 0 24 v0 rfl rfl) h0
  obtain ⟨a1, len1, cap1, rfl⟩ := okWide_slice Tryz.underlying42 (hval 1 42 v1 rfl rfl)
  have k1 := h1
  have lt1 : ∀ x ∈ p1, x.block < W.heap.size := by obtain ⟨m, hm⟩ := k1; exact DataW.trod_lt m _ _ _ hm
  obtain ⟨l1, rfl, w1, z1⟩ := openDDLsW h1 (hz1 1 42 d1 rfl rfl)
  obtain ⟨a2, rfl, rfl, rfl, w2⟩ := open_int Tryz.underlying3 (hval 2 3 v2 rfl rfl) h2
  clear hA0 hval0
  refine (walk a0 cap0 l0 a1 cap1 l1 a2 W w0 w1 z1 w2 hL).mono fun e W' ⟨he, bel⟩ => ?_
  subst he
  exact ⟨_, rfl, _, _, _, [], _, [], hW', trodAll_mk1 (shut_bool Tryz.underlying4 _), (trodAll_cons_mk (Below.trod laidOut (by kernel_rfl) (of_decide_eq_true (by kernel_rfl)) k0 bel lt0) (trodAll_cons_mk (Below.trod laidOut (by kernel_rfl) (of_decide_eq_true (by kernel_rfl)) k1 bel lt1) (trodAll_cons_mk (shut_int Tryz.underlying3 w2) trodAll_mk0))), rfl, bel.frame _, fun h => by cases h⟩

theorem over : Rows.DdlAllSaid :=
  OpenClaim.holds_of_wide 4 Tryz.f4 rfl rfl rfl rfl rfl rfl rfl ⟨rfl, rfl, rfl, rfl, rfl⟩ rfl rfl rfl rfl rfl (by kernel_rfl) Tryz.func4 (by kernel_rfl)
    (of_decide_eq_true (by kernel_rfl)) (by unfold Func.isWrapper; first | (rw [if_pos (by decide +kernel)]; kernel_rfl) | (rw [if_neg (by decide +kernel)]; exact ⟨rfl, rfl⟩))
    (fun os started H enc _ => lifted os started H enc)

/-- the given statement: the card -/
theorem proved : Rows.DdlAllCardSaid :=
  Claim7.holds_tied_plain_at .later [] [.data, .data] true (true, "ee93dac4a9382dbe582cd5452d1c9755a2f78c0ac92dbc05ceb6687aedc986b0") false
    over (fun _ h => by cases h) (by kernel_rfl) (fun _ h => by cases h) ddlAll_row_tie rfl ⟨rfl, rfl⟩ (by kernel_rfl) rfl
    (fun f fn hf hfn => by
      obtain rfl : f = 4 := Option.some.inj ((show Tryz.prog.funcNamed "haulage/haulagelaw09.DdlAll" = some 4 by kernel_rfl).symm.trans hf) |>.symm
      obtain rfl : fn = Tryz.f4 := (Option.some.inj (Tryz.func4.symm.trans hfn)).symm
      exact ⟨by kernel_rfl, fun j t ht => by
        rw [Tryz.params4] at ht
        have hm : t ∈ [24, 42, 3] := by simpa using Array.mem_of_getElem? ht
        have hall : ([24, 42, 3].all fun u => !Tryz.prog.wantsStandIn u) = true := by kernel_rfl
        exact (show Tryz.prog.wantsStandIn t = false by simpa using List.all_eq_true.1 hall t hm)⟩)
    (by kernel_rfl)
#print axioms proved
end Go.Proofs.YthmjgaekcghonaaGreatDoor.ddlAll
