/-
  SchemaRight: for every catalog the law returns true: which columns, tables and catalogs are right is what the page says. No condition but that the two tables of package utf read as the program's text lays them (tied by the card).
-/
import Derived.Test.YtmcgcanpaffggaaDoorSchRefCatC
import Derived.Test.YtmcgcanpaffggaaDoorTie
import Derived.Test.YtmcgcanpaffggaaDoorCards
import Derived.ProofKit
import Derived.OpenShut
import Derived.ShutString
import Derived.ChangeOld
import Derived.LaidMore
import Derived.SevenTiedAt
import Derived.Test.YtmcgcanpaffggaaDoorPart1
import Derived.Test.YtmcgcanpaffggaaDoorPart2
import Derived.Test.YtmcgcanpaffggaaDoorPart3
namespace Go.Proofs.YtmcgcanpaffggaaDoor.schemaRight
open Go.ChangeShapes Go.WideShapes Go.ChangeAt Go.RowKit
open Go.ChangeMaps (open_string shut_string)

theorem neq_same (b : Bool) : (b != b) = false := by cases b <;> rfl
theorem eql_same (b : Bool) : (b == b) = true := by cases b <;> rfl
set_option maxRecDepth 100000 in
set_option maxHeartbeats 3200000 in
theorem walk_t (A : Option Addr) (cap : Nat) (l : List Tb) (w : World) (hin : TabsIn w A cap l) (ht : UTab w) :
    Calls Tryd.prog 3 #[.agg #[.slice A l.length cap]] w fun e w' => e = .returned (.bool true) ∧ Below w.heap.size w w' := by
  obtain ⟨w0, hw0, hb0, hB, hs0⟩ := box_one w (.slice A l.length cap) 24
  have Hw0 := Lib.hid hw0; clear hw0
  have Hb0 := Lib.hid hb0
  have HA := Lib.hid (hin.2.2.1.to hb0)
  have HT := Lib.hid (ht.below hb0 (Nat.le_refl _)); clear ht hb0
  have HB := Lib.hid hB.one; clear hB
  have Hs0 := Lib.hid hs0; clear hs0
  have HIn := Lib.hid hin
  have hlm := hin.1; clear hin
  have HLv := Lib.hid (lives8_any w0 HT.out)
  rw [← Hw0.out] at HLv
  have HFw := Lib.hid (fun w' hA' => fewcat_any A cap l w' hA' HIn.out.1 (fun t ht => (HIn.out.2.2.2 t ht).2.2.2.2.1))
  cases hf : fewCat l
  · rw [hf] at HFw
    clear hf
    go_enter Tryd.func3, Tryd.ntmps3
    go_wp2_with fail
    refine HLv.out.mono ?_
    rintro e w1 ⟨rfl, hb1⟩
    rw [Hw0.out] at hb1
    have Hb1 := Lib.hid hb1
    have c0 : w1.cell? ⟨w.heap.size, 0, none⟩ = some (.slice A l.length cap) := (hb1.cell (by have := Hs0.out; simp; omega)).trans HB.out
    clear hb1
    go_wp2_with fail
    refine (HFw.out w1 (HA.out.to Hb1.out)).mono ?_
    rintro e w2 ⟨rfl, hb2⟩
    have Hb2 := Lib.hid (bthen (bthen Hb0.out Hb1.out) hb2); clear hb2
    go_wp2_with fail
    go_ret
    exact ⟨rfl, Hb2.out⟩
  rw [hf] at HFw
  have hf' := hf
  unfold fewCat at hf'
  simp only [Bool.and_eq_true, decide_eq_true_eq, List.all_eq_true] at hf'
  have hlen : l.length ≤ 10 := by omega
  have HWf : Hid (∀ t ∈ l, WfT t) := fun t ht => WfT_of (hf'.2 t ht) (HIn.out.2.2.2 t ht)
  clear hf hf' hlm
  go_enter Tryd.func3, Tryd.ntmps3
  go_wp2_with fail
  refine HLv.out.mono ?_
  rintro e w1 ⟨rfl, hb1⟩
  rw [Hw0.out] at hb1
  have Hb1 := Lib.hid hb1
  have c0 : w1.cell? ⟨w.heap.size, 0, none⟩ = some (.slice A l.length cap) := (hb1.cell (by have := Hs0.out; simp; omega)).trans HB.out
  clear hb1
  go_wp2_with fail
  refine (HFw.out w1 (HA.out.to Hb1.out)).mono ?_
  rintro e w2 ⟨rfl, hb2⟩
  have Hb2 := Lib.hid (bthen Hb1.out hb2); clear hb2 c0
  go_wp2_with fail
  clear HLv HFw
  go_loopw [3] (fun i wr => ∃ k : Nat, k ≤ l.length ∧ i = .int .i64 k ∧ Hid (Below w0.heap.size w0 wr)) (fun i _ => l.length - (intOf i).toNat)
  case atStart => exact ⟨0, by omega, rfl, Hb2.out⟩
  case round =>
    obtain ⟨k, hk, rfl, hb⟩ := hrel
    have Hbw := Lib.hid (bthen Hb0.out hb.out)
    have c0 : wr.cell? ⟨w.heap.size, 0, none⟩ = some (.slice A l.length cap) := (hb.out.cell (by have := Hs0.out; simp; omega)).trans HB.out
    by_cases hlt : k < l.length
    · obtain ⟨x, hx⟩ : ∃ x, l[k]? = some x := ⟨l[k], by simp [hlt]⟩
      have Hxm := Lib.hid (List.mem_of_getElem? hx)
      obtain ⟨b, off, hAe, hbB, d0, d1, d2, d3, d4⟩ := (HA.out.below hb.out).get k x hx
      rw [hAe] at c0
      clear hx hAe
      obtain ⟨w3, hw3, hb3, hX, hs3⟩ := box_tab wr x
      have Hw3 := Lib.hid hw3; clear hw3
      have Hs3 := Lib.hid hs3; clear hs3
      have HX := Lib.hid hX; clear hX
      have Hb3 := Lib.hid (bthen hb.out hb3)
      have HA3 := Lib.hid ((HA.out.to hb.out).to hb3)
      have HT3 := Lib.hid ((HT.out.below hb.out (Nat.le_refl _)).below hb3 (Nat.le_refl _)); clear hb3
      have HR1 := Lib.hid (fun w' (hb' : Below w3.heap.size w3 w') => rtab_any x w' (HT3.out.below hb' (Nat.le_refl _)) (HWf.out x Hxm.out) ((HA3.out.to hb').2 x Hxm.out))
      have HR2 := Lib.hid (fun w' (hb' : Below w3.heap.size w3 w') => rrtab_any x w' (HWf.out x Hxm.out) ((HA3.out.to hb').2 x Hxm.out))
      generalize rightTab x = r at HR1 HR2
      have hrr := neq_same r
      have hne : Nonempty (BelowBy w3.heap.size w3) := ⟨⟨w3, Below.refl _ _⟩⟩
      have X0 : ∀ p : BelowBy w3.heap.size w3, p.x.cell? ⟨wr.heap.size, 0, none⟩ = some (.int .i64 x.id) := fun p => (p.h.cell (by have := Hs3.out; simp; omega)).trans (HX.out 0 _ rfl)
      have X1 : ∀ p : BelowBy w3.heap.size w3, p.x.cell? ⟨wr.heap.size, 1, none⟩ = some (.string x.nm) := fun p => (p.h.cell (by have := Hs3.out; simp; omega)).trans (HX.out 1 _ rfl)
      have X2 : ∀ p : BelowBy w3.heap.size w3, p.x.cell? ⟨wr.heap.size, 2, none⟩ = some (.int .i64 x.key) := fun p => (p.h.cell (by have := Hs3.out; simp; omega)).trans (HX.out 2 _ rfl)
      have X3 : ∀ p : BelowBy w3.heap.size w3, p.x.cell? ⟨wr.heap.size, 3, none⟩ = some (.int .i64 x.nx) := fun p => (p.h.cell (by have := Hs3.out; simp; omega)).trans (HX.out 3 _ rfl)
      have X4 : ∀ p : BelowBy w3.heap.size w3, p.x.cell? ⟨wr.heap.size, 4, none⟩ = some (.slice x.A x.cols.length x.cap) := fun p => (p.h.cell (by have := Hs3.out; simp; omega)).trans (HX.out 4 _ rfl)
      go_wp2_with fail
      rw [Hw3.out]
      refine wp_region_below w3.heap.size (by kernel_rfl) (by kernel_rfl) ?_
      repeat (
        with_reducible refine wpQuiet_step (fun K hK => ?_)
        go_simp
        refine hK _ ?_
        clear hK K)
      with_reducible refine wpQuiet_step (fun K hK => ?_)
      go_simp
      apply Exists.intro
      refine ⟨fun p => ?_, hK _ ?_⟩
      exact (HR1.out _ p.h).mono fun e w5 ⟨he, hb⟩ => ⟨he, p.step (Nat.le_refl _) hb⟩
      clear hK K
      repeat (
        with_reducible refine wpQuiet_step (fun K hK => ?_)
        go_simp
        refine hK _ ?_
        clear hK K)
      with_reducible refine wpQuiet_step (fun K hK => ?_)
      go_simp
      apply Exists.intro
      refine ⟨fun p => ?_, hK _ ?_⟩
      exact (HR2.out _ p.h).mono fun e w5 ⟨he, hb⟩ => ⟨he, p.step (Nat.le_refl _) hb⟩
      clear hK K
      repeat (
        with_reducible refine wpQuiet_step (fun K hK => ?_)
        go_simp
        refine hK _ ?_
        clear hK K)
      refine wpQuiet_nil ?_
      rintro _ ⟨p, rfl⟩
      go_wp2_with fail
      have hxl : x.cols.length ≤ 1000000 := (HWf.out x Hxm.out).2.1
      have Hp := Lib.hid p.h
      clear X0 X1 X2 X3 X4 HR1 HR2 hrr hne d0 d1 d2 d3 d4
      have HX4 := Lib.hid (HX.out 4 _ rfl); clear HX
      generalize wr.heap.size = B at HX4 Hs3 ⊢
      go_loopw [5] (fun i wr2 => ∃ j : Nat, j ≤ x.cols.length ∧ i = .int .i64 j ∧ Hid (Below w3.heap.size w3 wr2)) (fun i _ => x.cols.length - (intOf i).toNat)
      case atStart => exact ⟨0, by omega, rfl, Hp.out⟩
      case round =>
        obtain ⟨j, hj, rfl, hb4⟩ := hrel
        have c4 : wr.cell? ⟨B, 4, none⟩ = some (.slice x.A x.cols.length x.cap) := (hb4.out.cell (by have := Hs3.out; simp; omega)).trans HX4.out
        by_cases hjl : j < x.cols.length
        · obtain ⟨c, hc⟩ : ∃ c, x.cols[j]? = some c := ⟨x.cols[j], by simp [hjl]⟩
          have Hcw := Lib.hid ((HWf.out x Hxm.out).2.2.2 c (List.mem_of_getElem? hc))
          obtain ⟨b2, off2, hAe2, hbB2, f0, f1, f2, f3, f4, f5, f6, f7⟩ := ColsAt.get ((HA3.out.to hb4.out).2 x Hxm.out) j c hc
          have hne : Nonempty (BelowBy wr.heap.size wr) := ⟨⟨wr, Below.refl _ _⟩⟩
          have C4 : ∀ p : BelowBy wr.heap.size wr, p.x.cell? ⟨B, 4, none⟩ = some (.slice (some ⟨b2, off2, none⟩) x.cols.length x.cap) := fun p => by rw [← hAe2]; exact (p.h.cell (by have := Hs3.out; have := hb4.out.size; simp; omega)).trans c4
          have F0 : ∀ p : BelowBy wr.heap.size wr, p.x.cell? ⟨b2, off2 + j * 8, none⟩ = some (.int .i64 c.id) := fun p => (p.h.cell hbB2).trans f0
          have F1 : ∀ p : BelowBy wr.heap.size wr, p.x.cell? ⟨b2, off2 + j * 8 + 1, none⟩ = some (.string c.nm) := fun p => (p.h.cell hbB2).trans f1
          have F2 : ∀ p : BelowBy wr.heap.size wr, p.x.cell? ⟨b2, off2 + j * 8 + 2, none⟩ = some (.int .i64 c.tk) := fun p => (p.h.cell hbB2).trans f2
          have F3 : ∀ p : BelowBy wr.heap.size wr, p.x.cell? ⟨b2, off2 + j * 8 + 3, none⟩ = some (.int .i64 c.tm) := fun p => (p.h.cell hbB2).trans f3
          have F4 : ∀ p : BelowBy wr.heap.size wr, p.x.cell? ⟨b2, off2 + j * 8 + 4, none⟩ = some (.bool c.nl) := fun p => (p.h.cell hbB2).trans f4
          have F5 : ∀ p : BelowBy wr.heap.size wr, p.x.cell? ⟨b2, off2 + j * 8 + 5, none⟩ = some (.int .i64 c.dk) := fun p => (p.h.cell hbB2).trans f5
          have F6 : ∀ p : BelowBy wr.heap.size wr, p.x.cell? ⟨b2, off2 + j * 8 + 6, none⟩ = some (.int .i64 c.dn) := fun p => (p.h.cell hbB2).trans f6
          have F7 : ∀ p : BelowBy wr.heap.size wr, p.x.cell? ⟨b2, off2 + j * 8 + 7, none⟩ = some (.string c.ds) := fun p => (p.h.cell hbB2).trans f7
          rw [hAe2] at c4
          clear hAe2 hc f0 f1 f2 f3 f4 f5 f6 f7
          have HT4 := Lib.hid (HT3.out.below hb4.out (Nat.le_refl _))
          have HQ1 := Lib.hid (fun w' (hb' : Below wr.heap.size wr w') => rcol_any c w' (HT4.out.below hb' (Nat.le_refl _)) Hcw.out)
          have HQ2 := Lib.hid (fun w' => rrcol_any c w' Hcw.out)
          generalize rightC c = r2 at HQ1 HQ2
          have hrr := neq_same r2
          have hj0 : (0 : Int) ≤ (j : Int) := by omega
          go_wp2_with fail
          refine wp_region_below wr.heap.size (by kernel_rfl) (by kernel_rfl) ?_
          repeat (
            with_reducible refine wpQuiet_step (fun K hK => ?_)
            go_simp
            refine hK _ ?_
            clear hK K)
          with_reducible refine wpQuiet_step (fun K hK => ?_)
          go_simp
          apply Exists.intro
          refine ⟨fun p => ?_, hK _ ?_⟩
          exact (HQ1.out _ p.h).mono fun e w5 ⟨he, hb⟩ => ⟨he, p.step (Nat.le_refl _) hb⟩
          clear hK K
          repeat (
            with_reducible refine wpQuiet_step (fun K hK => ?_)
            go_simp
            refine hK _ ?_
            clear hK K)
          with_reducible refine wpQuiet_step (fun K hK => ?_)
          go_simp
          apply Exists.intro
          refine ⟨fun p => ?_, hK _ ?_⟩
          exact (HQ2.out _).mono fun e w5 ⟨he, hb⟩ => ⟨he, p.step (Nat.le_refl _) hb⟩
          clear hK K
          repeat (
            with_reducible refine wpQuiet_step (fun K hK => ?_)
            go_simp
            refine hK _ ?_
            clear hK K)
          refine wpQuiet_nil ?_
          rintro _ ⟨p, rfl⟩
          go_wp2_with fail
          go_roundw
          case rel => exact ⟨j + 1, by omega, by go_num, bthen hb4.out p.h⟩
          case measure => simp [intOf]; omega
        · go_wp2_with fail
          go_roundw
          case rel => exact ⟨k + 1, by omega, by go_num, bthen Hb3.out hb4.out⟩
          case measure => simp [intOf]; omega
    · have hne : Nonempty (BelowBy wr.heap.size wr) := ⟨⟨wr, Below.refl _ _⟩⟩
      have C0 : ∀ p : BelowBy wr.heap.size wr, p.x.cell? ⟨w.heap.size, 0, none⟩ = some (.slice A l.length cap) := fun p => (p.h.cell (by have := Hs0.out; have := hb.out.size; simp; omega)).trans c0
      have HT4 := Lib.hid (HT.out.below hb.out (Nat.le_refl _))
      have HQ1 := Lib.hid (fun w' (hb' : Below wr.heap.size wr w') => rcat_any A cap l w' (HT4.out.below hb' (Nat.le_refl _)) ((HA.out.to hb.out).to hb') HWf.out (by omega) HIn.out.2.1)
      have HQ2 := Lib.hid (fun w' (hb' : Below wr.heap.size wr w') => rrcat_any A cap l w' ((HA.out.to hb.out).to hb') HWf.out (by omega))
      generalize rightCat l = r at HQ1 HQ2
      have hrr := eql_same r
      go_wp2_with fail
      refine wp_region_below wr.heap.size (by kernel_rfl) (by kernel_rfl) ?_
      repeat (
        with_reducible refine wpQuiet_step (fun K hK => ?_)
        go_simp
        refine hK _ ?_
        clear hK K)
      with_reducible refine wpQuiet_step (fun K hK => ?_)
      go_simp
      apply Exists.intro
      refine ⟨fun p => ?_, hK _ ?_⟩
      exact (HQ1.out _ p.h).mono fun e w5 ⟨he, hb⟩ => ⟨he, p.step (Nat.le_refl _) hb⟩
      clear hK K
      repeat (
        with_reducible refine wpQuiet_step (fun K hK => ?_)
        go_simp
        refine hK _ ?_
        clear hK K)
      with_reducible refine wpQuiet_step (fun K hK => ?_)
      go_simp
      apply Exists.intro
      refine ⟨fun p => ?_, hK _ ?_⟩
      exact (HQ2.out _ p.h).mono fun e w5 ⟨he, hb⟩ => ⟨he, p.step (Nat.le_refl _) hb⟩
      clear hK K
      repeat (
        with_reducible refine wpQuiet_step (fun K hK => ?_)
        go_simp
        refine hK _ ?_
        clear hK K)
      refine wpQuiet_nil ?_
      rintro _ ⟨p, rfl⟩
      go_wp2_with fail
      go_ret
      exact ⟨rfl, bthen Hbw.out p.h⟩
theorem walk (A : Option Addr) (cap : Nat) (l : List Tb) (w : World) (hin : TabsIn w A cap l) (hL : laidMetH Tryd.prog Rows.schemaRightRow.laid w) :
    Calls Tryd.prog 3 #[.agg #[.slice A l.length cap]] w fun e w' => e = .returned (.bool true) ∧ Below w.heap.size w w' :=
  walk_t A cap l w hin (utab_of (by kernel_rfl) (by repeat (first | exact List.Mem.head _ | apply List.Mem.tail)) (by repeat (first | exact List.Mem.head _ | apply List.Mem.tail)) hL)
theorem own : ownKnob Tryd.prog.godebug = none := by kernel_rfl
theorem laidOut : laidOutB Tryd.prog = true := by kernel_rfl
theorem door_met (os : Os) (args : Array Value) : laidMetH Tryd.prog Rows.schemaRightRow.laid ((World.doorLaid Tryd.prog 19 os).forCall (fun _ _ => 0) ⟨#[], args, []⟩).memory :=
  laidMetH_of_parts3 (fuel := 8) (laidMet_of_run' 8 (by kernel_rfl) (by kernel_rfl)) (by kernel_rfl) (by kernel_rfl)
set_option maxRecDepth 100000 in
theorem lifted (os : Os) (started : os.Started) (H : Type) (enc : TypeId × Value → H) :
    ReturnsInHanded {} Tryd.checked os 3 .any (fun w args => (Rows.schemaRightSpec.pre enc Tryd.prog Tryd.f3 [] false w args ∧ laidMetH Tryd.prog Rows.schemaRightRow.laid w) ∧ sizedMet enc Tryd.prog Tryd.f3 (OpenSpec.ofChange Rows.schemaRightSpec) false w args)
      (Rows.schemaRightSpec.post enc Tryd.prog Tryd.f3 false true false false) := by
  refine returnsInHanded_of_change_and (C := Tryd.checked) (X := fun w _ => laidMetH Tryd.prog Rows.schemaRightRow.laid w) (fun _ _ _ hh h => h.of_heap hh) own started (by kernel_rfl) Tryd.func3
    (ChangeSpec.witness_shaped (enc := enc) (C := Tryd.checked) (os := os) (X := fun w _ => laidMetH Tryd.prog Rows.schemaRightRow.laid w) false (World.doorLaid Tryd.prog 19 os) #[.agg #[.slice none 0 0]] 8 rfl (World.shaped_of_RefB (by kernel_rfl) (by kernel_rfl)) (by kernel_rfl) (by kernel_rfl) (by kernel_rfl) (door_met os _)) ?_
  intro W base args ds gs before hval0 hW hcnd _ hL _
  have hval : ∀ (j : Nat) t v, Tryd.f3.params[j]? = some t → args[j]? = some v → Value.okWide Tryd.prog W .any base t v := hval0
  have hW' := hW
  obtain ⟨p, q, hA0, hV, rfl, hfz, hnd⟩ := hW
  have hA : DataW.TrodAll enc Tryd.prog W 0 (fun _ => true) true Tryd.f3.params.toList args.toList ds p := hA0
  rw [Tryd.params3] at hA hval
  obtain ⟨v0, vs0, d0, ds0, p0, q0, hargs, rfl, rfl, h0, r0⟩ := trodAll_cons hA
  obtain ⟨rfl, rfl, rfl⟩ := trodAll_nil r0
  obtain rfl : args = #[v0] := by cases args; simp_all
  obtain ⟨rfl, rfl⟩ := trodVars_none hV
  have k0 := h0
  have lt0 : ∀ x ∈ p0, x.block < W.heap.size := by obtain ⟨m, hm⟩ := k0; exact DataW.trod_lt m _ _ _ hm
  obtain ⟨a0, cap0, l0, rfl, w0⟩ := openCat (hval 0 24 v0 rfl rfl) h0
  clear hA0 hval0
  refine (walk a0 cap0 l0 W w0 hL).mono fun e W' ⟨he, bel⟩ => ?_
  subst he
  exact ⟨_, rfl, _, _, _, [], _, [], hW', trodAll_mk1 (shut_bool Tryd.underlying4 _), (trodAll_cons_mk (Below.trod laidOut (by kernel_rfl) (of_decide_eq_true (by kernel_rfl)) k0 bel lt0) trodAll_mk0), rfl, bel.frame _, fun h => by cases h⟩

theorem over : Rows.SchemaRightSaid :=
  OpenClaim.holds_of_wide 3 Tryd.f3 rfl rfl rfl rfl rfl rfl rfl ⟨rfl, rfl, rfl, rfl, rfl⟩ rfl rfl rfl rfl rfl (by kernel_rfl) Tryd.func3 (by kernel_rfl)
    (of_decide_eq_true (by kernel_rfl)) (by unfold Func.isWrapper; first | (rw [if_pos (by decide +kernel)]; kernel_rfl) | (rw [if_neg (by decide +kernel)]; exact ⟨rfl, rfl⟩))
    (fun os started H enc _ => lifted os started H enc)

/-- the given statement: the card -/
theorem proved : Rows.SchemaRightCardSaid :=
  Claim7.holds_tied_plain_at .later [] [.data, .data] true (true, "8a3afc4f22ed179eb0e7e12e38245cf003443ba904eea1b9a5bcb5b530c2a6ef") false
    over (fun _ h => by cases h) (by kernel_rfl) (fun _ h => by cases h) schemaRight_row_tie rfl ⟨rfl, rfl⟩ (by kernel_rfl) rfl
    (fun f fn hf hfn => by
      obtain rfl : f = 3 := Option.some.inj ((show Tryd.prog.funcNamed "haulage/haulagelaw08.SchemaRight" = some 3 by kernel_rfl).symm.trans hf) |>.symm
      obtain rfl : fn = Tryd.f3 := (Option.some.inj (Tryd.func3.symm.trans hfn)).symm
      exact ⟨by kernel_rfl, fun j t ht => by
        rw [Tryd.params3] at ht
        have hm : t ∈ [24] := by simpa using Array.mem_of_getElem? ht
        have hall : ([24].all fun u => !Tryd.prog.wantsStandIn u) = true := by kernel_rfl
        exact (show Tryd.prog.wantsStandIn t = false by simpa using List.all_eq_true.1 hall t hm)⟩)
    (by kernel_rfl)
#print axioms proved
end Go.Proofs.YtmcgcanpaffggaaDoor.schemaRight
