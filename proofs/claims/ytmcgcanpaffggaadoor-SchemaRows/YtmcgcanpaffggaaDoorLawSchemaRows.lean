/-
  SchemaRows: for every table and every row the law returns true: whether the row fits the table, and why not, and its cells, is what the page says. No condition but that the two tables of package utf read as the program's text lays them (tied by the card).
-/
import Derived.Test.YtmcgcanpaffggaaDoorSchRefRowC
import Derived.Test.YtmcgcanpaffggaaDoorSchCellsC
import Derived.Test.YtmcgcanpaffggaaDoorSchFew2C
import Derived.Test.YtmcgcanpaffggaaDoorTie
import Derived.Test.YtmcgcanpaffggaaDoorCards
import Derived.ProofKit
import Derived.OpenShut
import Derived.ShutString
import Derived.ChangeOld
import Derived.LaidMore
import Derived.SevenTiedAt
import Derived.Test.YtmcgcanpaffggaaDoorPart1
import Derived.Test.YtmcgcanpaffggaaDoorPart2
import Derived.Test.YtmcgcanpaffggaaDoorPart3
namespace Go.Proofs.YtmcgcanpaffggaaDoor.schemaRows
open Go.ChangeShapes Go.WideShapes Go.ChangeAt Go.RowKit
open Go.ChangeMaps (open_string shut_string)

theorem neq_z (z : Int) : (z != z) = false := by simp
theorem eql_z (z : Int) : (z == z) = true := by simp
set_option maxRecDepth 100000 in
set_option maxHeartbeats 6400000 in
theorem walk_t (t : Tb) (A : Option Addr) (cap : Nat) (vs : List Vb) (w : World) (hin : InT w t) (hrow : RowIn w A cap vs) (ht : UTab w) :
    Calls Tryd.prog 5 #[TV t, .slice A vs.length cap] w fun e w' => e = .returned (.bool true) ∧ Below w.heap.size w w' := by
  obtain ⟨w0, hw0, hb0, hB, hs0⟩ := box_tab w t
  have Hw0 := Lib.hid hw0; clear hw0
  have Hb0 := Lib.hid hb0
  have HA := Lib.hid (RowAt.to hin.2.2.2.2.2.2.1 hb0)
  have HR := Lib.hid (hrow.2.2.1.to hb0)
  have HT := Lib.hid (ht.below hb0 (Nat.le_refl _)); clear ht hb0
  have HB := Lib.hid hB; clear hB
  have Hs0 := Lib.hid hs0; clear hs0
  have HIn := Lib.hid hin; clear hin
  have HRow := Lib.hid hrow; clear hrow
  have HLv := Lib.hid (lives8_any w0 HT.out)
  rw [← Hw0.out] at HLv
  have HF1 := Lib.hid (fun w' hA' => few8_any t w' hA' HIn.out.2.2.2.2.1)
  have HF2 := Lib.hid (fun w' hA' => fewv_any A cap vs w' hA' HRow.out.1)
  cases hf : fewT t
  · rw [hf] at HF1
    clear hf
    go_enter Tryd.func5, Tryd.ntmps5
    go_wp2_with fail
    refine HLv.out.mono ?_
    rintro e w1 ⟨rfl, hb1⟩
    rw [Hw0.out] at hb1
    have Hb1 := Lib.hid hb1; clear hb1
    obtain ⟨c0, c1, c2, c3, c4⟩ := (HB.out.below Hb1.out (by have := Hs0.out; omega)).tab
    go_wp2_with fail
    refine (HF1.out w1 (RowAt.to HA.out Hb1.out)).mono ?_
    rintro e w2 ⟨rfl, hb2⟩
    have Hb2 := Lib.hid (bthen Hb1.out hb2); clear hb2 c0 c1 c2 c3 c4
    go_wp2_with fail
    go_ret
    exact ⟨rfl, bthen Hb0.out Hb2.out⟩
  rw [hf] at HF1
  cases hf2 : fewV vs
  · rw [hf2] at HF2
    clear hf hf2
    go_enter Tryd.func5, Tryd.ntmps5
    go_wp2_with fail
    refine HLv.out.mono ?_
    rintro e w1 ⟨rfl, hb1⟩
    rw [Hw0.out] at hb1
    have Hb1 := Lib.hid hb1; clear hb1
    obtain ⟨c0, c1, c2, c3, c4⟩ := (HB.out.below Hb1.out (by have := Hs0.out; omega)).tab
    go_wp2_with fail
    refine (HF1.out w1 (RowAt.to HA.out Hb1.out)).mono ?_
    rintro e w2 ⟨rfl, hb2⟩
    have Hb2 := Lib.hid (bthen Hb1.out hb2); clear hb2 c0 c1 c2 c3 c4
    go_wp2_with fail
    refine (HF2.out w2 (HR.out.to Hb2.out)).mono ?_
    rintro e w3 ⟨rfl, hb3⟩
    have Hb3 := Lib.hid (bthen Hb2.out hb3); clear hb3
    go_wp2_with fail
    go_ret
    exact ⟨rfl, bthen Hb0.out Hb3.out⟩
  rw [hf2] at HF2
  have hvl := fewV_len hf2
  have HW := Lib.hid (WfT_of hf HIn.out)
  have H64 : Hid (In64 vs) := fun v hv => wf64 (HRow.out.2.2.2 v hv).2.1
  clear hf hf2
  have HQ1 := Lib.hid (fun w' ht' hA' hR' => row_any t A cap vs w' ht' HW.out hA' hR' (by omega))
  have HQ2 := Lib.hid (fun w' ht' hA' hR' => scells_any t A cap vs w' ht' HW.out hA' hR' (by omega))
  have HQ3 := Lib.hid (fun w' hA' hR' => rrow_any t A cap vs w' HW.out hA' hR' (by omega) H64.out)
  by_cases hz : rowT t vs = 0
  · have Hll : Hid (vs.length = t.cols.length) := (rowT_fits hz).2
    rw [if_pos hz] at HQ2
    rw [hz] at HQ1 HQ2 HQ3
    clear hz
    go_enter Tryd.func5, Tryd.ntmps5
    go_wp2_with fail
    refine HLv.out.mono ?_
    rintro e w1 ⟨rfl, hb1⟩
    rw [Hw0.out] at hb1
    have Hb1 := Lib.hid hb1; clear hb1
    obtain ⟨c0, c1, c2, c3, c4⟩ := (HB.out.below Hb1.out (by have := Hs0.out; omega)).tab
    go_wp2_with fail
    refine (HF1.out w1 (RowAt.to HA.out Hb1.out)).mono ?_
    rintro e w2 ⟨rfl, hb2⟩
    have Hb2 := Lib.hid (bthen Hb1.out hb2); clear hb2 c0 c1 c2 c3 c4
    go_wp2_with fail
    refine (HF2.out w2 (HR.out.to Hb2.out)).mono ?_
    rintro e w3 ⟨rfl, hb3⟩
    have Hb3 := Lib.hid (bthen Hb2.out hb3); clear hb3
    obtain ⟨c0, c1, c2, c3, c4⟩ := (HB.out.below Hb3.out (by have := Hs0.out; omega)).tab
    go_wp2_with fail
    refine (HQ1.out w3 (HT.out.below Hb3.out (Nat.le_refl _)) (RowAt.to HA.out Hb3.out) (HR.out.to Hb3.out)).mono ?_
    rintro e w4 ⟨rfl, hb4⟩
    have Hb4 := Lib.hid (bthen Hb3.out hb4); clear hb4 c0 c1 c2 c3 c4
    obtain ⟨c0, c1, c2, c3, c4⟩ := (HB.out.below Hb4.out (by have := Hs0.out; omega)).tab
    go_wp2_with fail
    refine (HQ2.out w4 (HT.out.below Hb4.out (Nat.le_refl _)) (RowAt.to HA.out Hb4.out) (HR.out.to Hb4.out)).mono ?_
    rintro e w5 ⟨v5, rfl, ho5, hb5⟩
    have HO5 := Lib.hid ho5
    have Hb5 := Lib.hid (bthen Hb4.out hb5); clear hb5 ho5 c0 c1 c2 c3 c4
    obtain ⟨c0, c1, c2, c3, c4⟩ := (HB.out.below Hb5.out (by have := Hs0.out; omega)).tab
    go_wp2_with fail
    refine (HQ3.out w5 (RowAt.to HA.out Hb5.out) (HR.out.to Hb5.out)).mono ?_
    rintro e w6 ⟨rfl, hb6⟩
    have HO6 := Lib.hid (HO5.out.below hb6)
    have Hb6 := Lib.hid (bthen Hb5.out hb6); clear hb6 c0 c1 c2 c3 c4
    obtain ⟨c0, c1, c2, c3, c4⟩ := (HB.out.below Hb6.out (by have := Hs0.out; omega)).tab
    obtain ⟨A6, p6, rfl, hA6⟩ := CellsAt.of_own HO6.out
    have HA6 := Lib.hid hA6; clear hA6
    go_wp2_with fail
    refine (rcells_any t A cap vs w6 (RowAt.to HA.out Hb6.out) (HR.out.to Hb6.out) (by omega) Hll.out).mono ?_
    rintro e w7 ⟨v7, rfl, ho7, hb7⟩
    have Hb7 := Lib.hid (bthen Hb6.out hb7)
    have HA7 := Lib.hid (RowAt.to HA6.out hb7)
    obtain ⟨A7, p7, rfl, hA7⟩ := CellsAt.of_own ho7
    have HS := Lib.hid (rsamex_any A6 A7 p6 p7 (zipC t.cols vs) w7 HA7.out hA7 (by rw [zipC_length]; omega))
    clear hb7 ho7 hA7 c0 c1 c2 c3 c4
    go_wp2_with fail
    refine HS.out.mono ?_
    rintro e w8 ⟨rfl, hb8⟩
    have Hb8 := Lib.hid (bthen Hb7.out hb8); clear hb8
    go_wp2_with fail
    go_ret
    exact ⟨rfl, bthen Hb0.out Hb8.out⟩
  · rw [if_neg hz] at HQ2
    obtain ⟨z, hzz⟩ : ∃ z, rowT t vs = z := ⟨_, rfl⟩
    rw [hzz] at HQ1 HQ2 HQ3 hz
    clear hzz
    have hz0 : (z == 0) = false := by simpa using hz
    have hz1 : (z != 0) = true := by rw [neq_int, hz0]; rfl
    have hzs := neq_z z
    have hze := eql_z z
    clear hz
    go_enter Tryd.func5, Tryd.ntmps5
    go_wp2_with fail
    refine HLv.out.mono ?_
    rintro e w1 ⟨rfl, hb1⟩
    rw [Hw0.out] at hb1
    have Hb1 := Lib.hid hb1; clear hb1
    obtain ⟨c0, c1, c2, c3, c4⟩ := (HB.out.below Hb1.out (by have := Hs0.out; omega)).tab
    go_wp2_with fail
    refine (HF1.out w1 (RowAt.to HA.out Hb1.out)).mono ?_
    rintro e w2 ⟨rfl, hb2⟩
    have Hb2 := Lib.hid (bthen Hb1.out hb2); clear hb2 c0 c1 c2 c3 c4
    go_wp2_with fail
    refine (HF2.out w2 (HR.out.to Hb2.out)).mono ?_
    rintro e w3 ⟨rfl, hb3⟩
    have Hb3 := Lib.hid (bthen Hb2.out hb3); clear hb3
    obtain ⟨c0, c1, c2, c3, c4⟩ := (HB.out.below Hb3.out (by have := Hs0.out; omega)).tab
    go_wp2_with fail
    refine (HQ1.out w3 (HT.out.below Hb3.out (Nat.le_refl _)) (RowAt.to HA.out Hb3.out) (HR.out.to Hb3.out)).mono ?_
    rintro e w4 ⟨rfl, hb4⟩
    have Hb4 := Lib.hid (bthen Hb3.out hb4); clear hb4 c0 c1 c2 c3 c4
    obtain ⟨c0, c1, c2, c3, c4⟩ := (HB.out.below Hb4.out (by have := Hs0.out; omega)).tab
    go_wp2_with fail
    refine (HQ2.out w4 (HT.out.below Hb4.out (Nat.le_refl _)) (RowAt.to HA.out Hb4.out) (HR.out.to Hb4.out)).mono ?_
    rintro e w5 ⟨v5, rfl, ho5, hb5⟩
    have HO5 := Lib.hid ho5
    have Hb5 := Lib.hid (bthen Hb4.out hb5); clear hb5 ho5 c0 c1 c2 c3 c4
    obtain ⟨c0, c1, c2, c3, c4⟩ := (HB.out.below Hb5.out (by have := Hs0.out; omega)).tab
    go_wp2_with fail
    refine (HQ3.out w5 (RowAt.to HA.out Hb5.out) (HR.out.to Hb5.out)).mono ?_
    rintro e w6 ⟨rfl, hb6⟩
    have HO6 := Lib.hid (HO5.out.below hb6)
    have Hb6 := Lib.hid (bthen Hb5.out hb6); clear hb6 c0 c1 c2 c3 c4
    obtain ⟨A6, p6, rfl, hA6⟩ := CellsAt.of_own HO6.out
    clear hA6
    go_wp2_with fail
    go_ret
    exact ⟨rfl, bthen Hb0.out Hb6.out⟩
theorem walk (t : Tb) (A : Option Addr) (cap : Nat) (vs : List Vb) (w : World) (hin : InT w t) (hrow : RowIn w A cap vs) (hL : laidMetH Tryd.prog Rows.schemaRowsRow.laid w) :
    Calls Tryd.prog 5 #[TV t, .slice A vs.length cap] w fun e w' => e = .returned (.bool true) ∧ Below w.heap.size w w' :=
  walk_t t A cap vs w hin hrow (utab_of (by kernel_rfl) (by repeat (first | exact List.Mem.head _ | apply List.Mem.tail)) (by repeat (first | exact List.Mem.head _ | apply List.Mem.tail)) hL)
theorem own : ownKnob Tryd.prog.godebug = none := by kernel_rfl
theorem laidOut : laidOutB Tryd.prog = true := by kernel_rfl
theorem door_met (os : Os) (args : Array Value) : laidMetH Tryd.prog Rows.schemaRowsRow.laid ((World.doorLaid Tryd.prog 19 os).forCall (fun _ _ => 0) ⟨#[], args, []⟩).memory :=
  laidMetH_of_parts3 (fuel := 8) (laidMet_of_run' 8 (by kernel_rfl) (by kernel_rfl)) (by kernel_rfl) (by kernel_rfl)
set_option maxRecDepth 100000 in
theorem lifted (os : Os) (started : os.Started) (H : Type) (enc : TypeId × Value → H) :
    ReturnsInHanded {} Tryd.checked os 5 .any (fun w args => (Rows.schemaRowsSpec.pre enc Tryd.prog Tryd.f5 [] false w args ∧ laidMetH Tryd.prog Rows.schemaRowsRow.laid w) ∧ sizedMet enc Tryd.prog Tryd.f5 (OpenSpec.ofChange Rows.schemaRowsSpec) false w args)
      (Rows.schemaRowsSpec.post enc Tryd.prog Tryd.f5 false true false false) := by
  refine returnsInHanded_of_change_and (C := Tryd.checked) (X := fun w _ => laidMetH Tryd.prog Rows.schemaRowsRow.laid w) (fun _ _ _ hh h => h.of_heap hh) own started (by kernel_rfl) Tryd.func5
    (ChangeSpec.witness_shaped (enc := enc) (C := Tryd.checked) (os := os) (X := fun w _ => laidMetH Tryd.prog Rows.schemaRowsRow.laid w) false (World.doorLaid Tryd.prog 19 os) #[.agg #[.int .i64 0, .string ByteArray.empty, .int .i64 0, .int .i64 0, .slice none 0 0], .slice none 0 0] 8 rfl (World.shaped_of_RefB (by kernel_rfl) (by kernel_rfl)) (by kernel_rfl) (by kernel_rfl) (by kernel_rfl) (door_met os _)) ?_
  intro W base args ds gs before hval0 hW hcnd _ hL _
  have hval : ∀ (j : Nat) t v, Tryd.f5.params[j]? = some t → args[j]? = some v → Value.okWide Tryd.prog W .any base t v := hval0
  have hW' := hW
  obtain ⟨p, q, hA0, hV, rfl, hfz, hnd⟩ := hW
  have hA : DataW.TrodAll enc Tryd.prog W 0 (fun _ => true) true Tryd.f5.params.toList args.toList ds p := hA0
  rw [Tryd.params5] at hA hval
  obtain ⟨v0, vs0, d0, ds0, p0, q0, hargs, rfl, rfl, h0, r0⟩ := trodAll_cons hA
  obtain ⟨v1, vs1, d1, ds1, p1, q1, rfl, rfl, rfl, h1, r1⟩ := trodAll_cons r0
  obtain ⟨rfl, rfl, rfl⟩ := trodAll_nil r1
  obtain rfl : args = #[v0, v1] := by cases args; simp_all
  obtain ⟨rfl, rfl⟩ := trodVars_none hV
  have k0 := h0
  have lt0 : ∀ x ∈ p0, x.block < W.heap.size := by obtain ⟨m, hm⟩ := k0; exact DataW.trod_lt m _ _ _ hm
  obtain ⟨t0, rfl, w0⟩ := openTab (hval 0 29 v0 rfl rfl) h0
  obtain ⟨a1, len1, cap1, rfl⟩ := okWide_slice Tryd.underlying52 (hval 1 52 v1 rfl rfl)
  have k1 := h1
  have lt1 : ∀ x ∈ p1, x.block < W.heap.size := by obtain ⟨m, hm⟩ := k1; exact DataW.trod_lt m _ _ _ hm
  obtain ⟨l1, rfl, w1⟩ := openRow h1
  clear hA0 hval0
  refine (walk t0 a1 cap1 l1 W w0 w1 hL).mono fun e W' ⟨he, bel⟩ => ?_
  subst he
  exact ⟨_, rfl, _, _, _, [], _, [], hW', trodAll_mk1 (shut_bool Tryd.underlying4 _), (trodAll_cons_mk (Below.trod laidOut (by kernel_rfl) (of_decide_eq_true (by kernel_rfl)) k0 bel lt0) (trodAll_cons_mk (Below.trod laidOut (by kernel_rfl) (of_decide_eq_true (by kernel_rfl)) k1 bel lt1) trodAll_mk0)), rfl, bel.frame _, fun h => by cases h⟩

theorem over : Rows.SchemaRowsSaid :=
  OpenClaim.holds_of_wide 5 Tryd.f5 rfl rfl rfl rfl rfl rfl rfl ⟨rfl, rfl, rfl, rfl, rfl⟩ rfl rfl rfl rfl rfl (by kernel_rfl) Tryd.func5 (by kernel_rfl)
    (of_decide_eq_true (by kernel_rfl)) (by unfold Func.isWrapper; first | (rw [if_pos (by decide +kernel)]; kernel_rfl) | (rw [if_neg (by decide +kernel)]; exact ⟨rfl, rfl⟩))
    (fun os started H enc _ => lifted os started H enc)

/-- the given statement: the card -/
theorem proved : Rows.SchemaRowsCardSaid :=
  Claim7.holds_tied_plain_at .later [] [.data, .data] true (true, "8a3afc4f22ed179eb0e7e12e38245cf003443ba904eea1b9a5bcb5b530c2a6ef") false
    over (fun _ h => by cases h) (by kernel_rfl) (fun _ h => by cases h) schemaRows_row_tie rfl ⟨rfl, rfl⟩ (by kernel_rfl) rfl
    (fun f fn hf hfn => by
      obtain rfl : f = 5 := Option.some.inj ((show Tryd.prog.funcNamed "haulage/haulagelaw08.SchemaRows" = some 5 by kernel_rfl).symm.trans hf) |>.symm
      obtain rfl : fn = Tryd.f5 := (Option.some.inj (Tryd.func5.symm.trans hfn)).symm
      exact ⟨by kernel_rfl, fun j t ht => by
        rw [Tryd.params5] at ht
        have hm : t ∈ [29, 52] := by simpa using Array.mem_of_getElem? ht
        have hall : ([29, 52].all fun u => !Tryd.prog.wantsStandIn u) = true := by kernel_rfl
        exact (show Tryd.prog.wantsStandIn t = false by simpa using List.all_eq_true.1 hall t hm)⟩)
    (by kernel_rfl)
#print axioms proved
end Go.Proofs.YtmcgcanpaffggaaDoor.schemaRows
