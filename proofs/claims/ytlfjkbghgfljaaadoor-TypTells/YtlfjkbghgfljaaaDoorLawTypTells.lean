/-
  TypTells: for every two types and every value the law returns true: which are right, what fits and which is as wide is what the page says. No condition but that the two tables of package utf read as the program's text lays them (tied by the card).
-/
import Derived.Test.YtlfjkbghgfljaaaDoorTypLivesC
import Derived.Test.YtlfjkbghgfljaaaDoorTypFitC
import Derived.Test.YtlfjkbghgfljaaaDoorTypRefWideC
import Derived.Test.YtlfjkbghgfljaaaDoorTypOpen
import Derived.Test.YtlfjkbghgfljaaaDoorValOpen
import Derived.Test.YtlfjkbghgfljaaaDoorTie
import Derived.Test.YtlfjkbghgfljaaaDoorCards
import Derived.ProofKit
import Derived.OpenShut
import Derived.ShutString
import Derived.ChangeOld
import Derived.LaidMore
import Derived.SevenTiedAt
namespace Go.Proofs.YtlfjkbghgfljaaaDoor.typTells
open Go.ChangeShapes Go.WideShapes Go.ChangeAt Go.RowKit
open Go.ChangeMaps (open_string shut_string)

/-- two types and a value in their boxes -/
def Bx3 (w w1 : World) (x y x2 y2 a b c : Value) : Prop := Blk2 w1 w.heap.size x y ∧ Blk2 w1 (w.heap.size + 1) x2 y2 ∧ Blk3 w1 (w.heap.size + 2) a b c ∧ w.heap.size + 2 < w1.heap.size ∧ Below w.heap.size w w1
theorem Bx3.new (w : World) (x y x2 y2 a b c : Value) (t t2 t3 : TypeId) : Bx3 w (((w.alloc (.cells #[x, y] t)).alloc (.cells #[x2, y2] t2)).alloc (.cells #[a, b, c] t3)) x y x2 y2 a b c := by
  have b1 : Below w.heap.size w (w.alloc (.cells #[x, y] t)) := (Below.refl _ _).alloc (Nat.le_refl _) _
  have b2 : Below w.heap.size w ((w.alloc (.cells #[x, y] t)).alloc (.cells #[x2, y2] t2)) := b1.alloc (by simp) _
  have b3 : Below w.heap.size w (((w.alloc (.cells #[x, y] t)).alloc (.cells #[x2, y2] t2)).alloc (.cells #[a, b, c] t3)) := b2.alloc (by simp; omega) _
  refine ⟨((Blk2.new w _ x y t rfl).alloc (by simp) _).alloc (by simp; omega) _, (Blk2.new _ _ x2 y2 t2 (by simp)).alloc (by simp) _, Blk3.new' _ _ a b c t3 (by simp), by simp, b3⟩
theorem Bx3.step {w w1 w2 : World} {x y x2 y2 a b c : Value} (h : Bx3 w w1 x y x2 y2 a b c) (hb : Below w1.heap.size w1 w2) : Bx3 w w2 x y x2 y2 a b c := by
  obtain ⟨h1, h2, h3, h4, h5⟩ := h
  have := hb.size
  exact ⟨h1.below hb (by omega), h2.below hb (by omega), h3.below hb h4, by omega, h5.trans (hb.mono (by omega))⟩

set_option maxRecDepth 100000 in
set_option maxHeartbeats 3200000 in
theorem walk (k m k2 m2 vk n : Int) (s : ByteArray) (w : World) (_ : (Lit.int .i64 k).wf = true) (_ : (Lit.int .i64 m).wf = true) (_ : (Lit.int .i64 k2).wf = true) (_ : (Lit.int .i64 m2).wf = true)
    (_ : (Lit.int .i64 vk).wf = true) (w2n : (Lit.int .i64 n).wf = true) (_ : s.size ≤ maxLen) (hL : laidMetH Tryd.prog Rows.typTellsRow.laid w) :
    Calls Tryd.prog 3 #[TT k m, TT k2 m2, VV vk n s] w fun e w' => e = .returned (.bool true) ∧ Below w.heap.size w w' := by
  have HT := Lib.hid (utab_of (by kernel_rfl) (by repeat (first | exact List.Mem.head _ | apply List.Mem.tail)) (by repeat (first | exact List.Mem.head _ | apply List.Mem.tail)) hL)
  have hn := wfT w2n
  clear w2n hL
  by_cases hs : 300 < s.size
  · have hd : decide (300 < (s.size : Int)) = true := by simp; omega
    go_enter Tryd.func3, Tryd.ntmps3
    go_wp2_with fail
    refine (lives6_any _ (((HT.out.alloc _).alloc _).alloc _)).mono ?_
    rintro e w1 ⟨rfl, hb1⟩
    have HB := Lib.hid ((Bx3.new w _ _ _ _ _ _ _ _ _ _).step hb1)
    clear hb1
    obtain ⟨_, _, ⟨e0, e1, e2, _⟩, _⟩ := HB.out
    go_wp2_with fail
    go_ret
    exact ⟨rfl, HB.out.2.2.2.2⟩
  · have hd : decide (300 < (s.size : Int)) = false := by simp; omega
    have HR := Lib.hid (fun w => tright_any k m w)
    have HS := Lib.hid (fun w => trright_any k m w)
    have HF := Lib.hid (fun w ht => tfits_any k m vk n s w ht)
    have HG := Lib.hid (fun w => trfits_any k m vk n s w hn.1 hn.2)
    have HW1 := Lib.hid (fun w => twide_any k m k2 m2 w)
    have HX1 := Lib.hid (fun w => trwide_any k m k2 m2 w)
    have HW2 := Lib.hid (fun w => twide_any k2 m2 k m w)
    have HX2 := Lib.hid (fun w => trwide_any k2 m2 k m w)
    clear hn hs
    generalize rightT k m = r at HR HS
    generalize fitT k m vk n s = f at HF HG
    generalize wideT k m k2 m2 = x1 at HW1 HX1
    generalize wideT k2 m2 k m = x2 at HW2 HX2
    go_enter Tryd.func3, Tryd.ntmps3
    go_wp2_with fail
    refine (lives6_any _ (((HT.out.alloc _).alloc _).alloc _)).mono ?_
    rintro e w1 ⟨rfl, hb1⟩
    have HT1 := Lib.hid ((((HT.out.alloc _).alloc _).alloc _).below hb1 (Nat.le_refl _))
    have HB := Lib.hid ((Bx3.new w _ _ _ _ _ _ _ _ _ _).step hb1)
    clear hb1
    obtain ⟨⟨c0, c1, _⟩, ⟨d0, d1, _⟩, ⟨e0, e1, e2, _⟩, hlt, _⟩ := HB.out
    go_wp2_with fail
    have hne : Nonempty (BelowBy w1.heap.size w1) := ⟨⟨w1, Below.refl _ _⟩⟩
    have C0 : ∀ p : BelowBy w1.heap.size w1, p.x.cell? ⟨w.heap.size, 0, none⟩ = some (.int .i64 k) := fun p => (p.h.cell (by simp; omega)).trans c0
    have C1 : ∀ p : BelowBy w1.heap.size w1, p.x.cell? ⟨w.heap.size, 1, none⟩ = some (.int .i64 m) := fun p => (p.h.cell (by simp; omega)).trans c1
    have D0 : ∀ p : BelowBy w1.heap.size w1, p.x.cell? ⟨w.heap.size + 1, 0, none⟩ = some (.int .i64 k2) := fun p => (p.h.cell (by simp; omega)).trans d0
    have D1 : ∀ p : BelowBy w1.heap.size w1, p.x.cell? ⟨w.heap.size + 1, 1, none⟩ = some (.int .i64 m2) := fun p => (p.h.cell (by simp; omega)).trans d1
    have E0 : ∀ p : BelowBy w1.heap.size w1, p.x.cell? ⟨w.heap.size + 2, 0, none⟩ = some (.int .i64 vk) := fun p => (p.h.cell (by simp; omega)).trans e0
    have E1 : ∀ p : BelowBy w1.heap.size w1, p.x.cell? ⟨w.heap.size + 2, 1, none⟩ = some (.int .i64 n) := fun p => (p.h.cell (by simp; omega)).trans e1
    have E2 : ∀ p : BelowBy w1.heap.size w1, p.x.cell? ⟨w.heap.size + 2, 2, none⟩ = some (.string s) := fun p => (p.h.cell (by simp; omega)).trans e2
    have HTp : Hid (∀ p : BelowBy w1.heap.size w1, UTab p.x) := fun p => HT1.out.below p.h (Nat.le_refl _)
    clear c0 c1 d0 d1 e0 e1 e2
    refine wp_region_below w1.heap.size (by kernel_rfl) (by kernel_rfl) ?_
    repeat (
      with_reducible refine wpQuiet_step (fun K hK => ?_)
      go_simp
      refine hK _ ?_
      clear hK K)
    with_reducible refine wpQuiet_step (fun K hK => ?_)
    go_simp
    apply Exists.intro
    refine ⟨fun p => ?_, hK _ ?_⟩
    exact (HR.out _).mono fun e w5 ⟨he, hb⟩ => ⟨he, p.step (Nat.le_refl _) hb⟩
    clear hK K
    repeat (
      with_reducible refine wpQuiet_step (fun K hK => ?_)
      go_simp
      refine hK _ ?_
      clear hK K)
    with_reducible refine wpQuiet_step (fun K hK => ?_)
    go_simp
    apply Exists.intro
    refine ⟨fun p => ?_, hK _ ?_⟩
    exact (HS.out _).mono fun e w5 ⟨he, hb⟩ => ⟨he, p.step (Nat.le_refl _) hb⟩
    clear hK K
    repeat (
      with_reducible refine wpQuiet_step (fun K hK => ?_)
      go_simp
      refine hK _ ?_
      clear hK K)
    with_reducible refine wpQuiet_step (fun K hK => ?_)
    go_simp
    apply Exists.intro
    refine ⟨fun p => ?_, hK _ ?_⟩
    exact (HF.out _ (HTp.out p)).mono fun e w5 ⟨he, hb⟩ => ⟨he, p.step (Nat.le_refl _) hb⟩
    clear hK K
    repeat (
      with_reducible refine wpQuiet_step (fun K hK => ?_)
      go_simp
      refine hK _ ?_
      clear hK K)
    with_reducible refine wpQuiet_step (fun K hK => ?_)
    go_simp
    apply Exists.intro
    refine ⟨fun p => ?_, hK _ ?_⟩
    exact (HG.out _).mono fun e w5 ⟨he, hb⟩ => ⟨he, p.step (Nat.le_refl _) hb⟩
    clear hK K
    repeat (
      with_reducible refine wpQuiet_step (fun K hK => ?_)
      go_simp
      refine hK _ ?_
      clear hK K)
    with_reducible refine wpQuiet_step (fun K hK => ?_)
    go_simp
    apply Exists.intro
    refine ⟨fun p => ?_, hK _ ?_⟩
    exact (HW1.out _).mono fun e w5 ⟨he, hb⟩ => ⟨he, p.step (Nat.le_refl _) hb⟩
    clear hK K
    repeat (
      with_reducible refine wpQuiet_step (fun K hK => ?_)
      go_simp
      refine hK _ ?_
      clear hK K)
    with_reducible refine wpQuiet_step (fun K hK => ?_)
    go_simp
    apply Exists.intro
    refine ⟨fun p => ?_, hK _ ?_⟩
    exact (HX1.out _).mono fun e w5 ⟨he, hb⟩ => ⟨he, p.step (Nat.le_refl _) hb⟩
    clear hK K
    repeat (
      with_reducible refine wpQuiet_step (fun K hK => ?_)
      go_simp
      refine hK _ ?_
      clear hK K)
    with_reducible refine wpQuiet_step (fun K hK => ?_)
    go_simp
    apply Exists.intro
    refine ⟨fun p => ?_, hK _ ?_⟩
    exact (HW2.out _).mono fun e w5 ⟨he, hb⟩ => ⟨he, p.step (Nat.le_refl _) hb⟩
    clear hK K
    repeat (
      with_reducible refine wpQuiet_step (fun K hK => ?_)
      go_simp
      refine hK _ ?_
      clear hK K)
    with_reducible refine wpQuiet_step (fun K hK => ?_)
    go_simp
    apply Exists.intro
    refine ⟨fun p => ?_, hK _ ?_⟩
    exact (HX2.out _).mono fun e w5 ⟨he, hb⟩ => ⟨he, p.step (Nat.le_refl _) hb⟩
    clear hK K
    repeat (
      with_reducible refine wpQuiet_step (fun K hK => ?_)
      go_simp
      refine hK _ ?_
      clear hK K)
    refine wpQuiet_nil ?_
    rintro _ ⟨p, rfl⟩
    go_wp2_with fail
    go_ret
    exact ⟨rfl, HB.out.2.2.2.2.trans (p.h.mono HB.out.2.2.2.2.size)⟩
theorem own : ownKnob Tryd.prog.godebug = none := by kernel_rfl
theorem laidOut : laidOutB Tryd.prog = true := by kernel_rfl
theorem door_met (os : Os) (args : Array Value) : laidMetH Tryd.prog Rows.typTellsRow.laid ((World.doorLaid Tryd.prog 24 os).forCall (fun _ _ => 0) ⟨#[], args, []⟩).memory :=
  laidMetH_of_parts3 (fuel := 8) (laidMet_of_run' 8 (by kernel_rfl) (by kernel_rfl)) (by kernel_rfl) (by kernel_rfl)
set_option maxRecDepth 100000 in
theorem lifted (os : Os) (started : os.Started) (H : Type) (enc : TypeId × Value → H) :
    ReturnsInHanded {} Tryd.checked os 3 .any (fun w args => (Rows.typTellsSpec.pre enc Tryd.prog Tryd.f3 [] false w args ∧ laidMetH Tryd.prog Rows.typTellsRow.laid w) ∧ sizedMet enc Tryd.prog Tryd.f3 (OpenSpec.ofChange Rows.typTellsSpec) false w args)
      (Rows.typTellsSpec.post enc Tryd.prog Tryd.f3 false true false false) := by
  refine returnsInHanded_of_change_and (C := Tryd.checked) (X := fun w _ => laidMetH Tryd.prog Rows.typTellsRow.laid w) (fun _ _ _ hh h => h.of_heap hh) own started (by kernel_rfl) Tryd.func3
    (ChangeSpec.witness_shaped (enc := enc) (C := Tryd.checked) (os := os) (X := fun w _ => laidMetH Tryd.prog Rows.typTellsRow.laid w) false (World.doorLaid Tryd.prog 24 os) #[.agg #[.int .i64 0, .int .i64 0], .agg #[.int .i64 0, .int .i64 0], .agg #[.int .i64 0, .int .i64 0, .string ByteArray.empty]] 8 rfl (World.shaped_of_RefB (by kernel_rfl) (by kernel_rfl)) (by kernel_rfl) (by kernel_rfl) (by kernel_rfl) (door_met os _)) ?_
  intro W base args ds gs before hval0 hW hcnd _ hL _
  have hval : ∀ (j : Nat) t v, Tryd.f3.params[j]? = some t → args[j]? = some v → Value.okWide Tryd.prog W .any base t v := hval0
  have hW' := hW
  obtain ⟨p, q, hA0, hV, rfl, hfz, hnd⟩ := hW
  have hA : DataW.TrodAll enc Tryd.prog W 0 (fun _ => true) true Tryd.f3.params.toList args.toList ds p := hA0
  rw [Tryd.params3] at hA hval
  obtain ⟨v0, vs0, d0, ds0, p0, q0, hargs, rfl, rfl, h0, r0⟩ := trodAll_cons hA
  obtain ⟨v1, vs1, d1, ds1, p1, q1, rfl, rfl, rfl, h1, r1⟩ := trodAll_cons r0
  obtain ⟨v2, vs2, d2, ds2, p2, q2, rfl, rfl, rfl, h2, r2⟩ := trodAll_cons r1
  obtain ⟨rfl, rfl, rfl⟩ := trodAll_nil r2
  obtain rfl : args = #[v0, v1, v2] := by cases args; simp_all
  obtain ⟨rfl, rfl⟩ := trodVars_none hV
  obtain ⟨a0k, a0m, rfl, rfl, rfl, w0k, w0m⟩ := openT (hval 0 23 v0 rfl rfl) h0
  obtain ⟨a1k, a1m, rfl, rfl, rfl, w1k, w1m⟩ := openT (hval 1 23 v1 rfl rfl) h1
  obtain ⟨a2k, a2n, a2s, rfl, rfl, rfl, w2k, w2n, w2s⟩ := openV (hval 2 25 v2 rfl rfl) h2
  clear hA0 hval0
  refine (walk a0k a0m a1k a1m a2k a2n a2s W w0k w0m w1k w1m w2k w2n w2s hL).mono fun e W' ⟨he, bel⟩ => ?_
  subst he
  exact ⟨_, rfl, _, _, _, [], _, [], hW', trodAll_mk1 (shut_bool Tryd.underlying4 _), (trodAll_cons_mk (shutT _ _ w0k w0m) (trodAll_cons_mk (shutT _ _ w1k w1m) (trodAll_cons_mk (shutV _ _ w2k w2n w2s) trodAll_mk0))), rfl, bel.frame _, fun h => by cases h⟩

theorem over : Rows.TypTellsSaid :=
  OpenClaim.holds_of_wide 3 Tryd.f3 rfl rfl rfl rfl rfl rfl rfl ⟨rfl, rfl, rfl, rfl, rfl⟩ rfl rfl rfl rfl rfl (by kernel_rfl) Tryd.func3 (by kernel_rfl)
    (of_decide_eq_true (by kernel_rfl)) (by unfold Func.isWrapper; first | (rw [if_pos (by decide +kernel)]; kernel_rfl) | (rw [if_neg (by decide +kernel)]; exact ⟨rfl, rfl⟩))
    (fun os started H enc _ => lifted os started H enc)

/-- the given statement: the card -/
theorem proved : Rows.TypTellsCardSaid :=
  Claim7.holds_tied_plain_at .later [] [.data, .data] true (true, "845853d3f8880bdd6136c05de4f38f3bb66592e8b8213e703d0902246d778162") false
    over (fun _ h => by cases h) (by kernel_rfl) (fun _ h => by cases h) typTells_row_tie rfl ⟨rfl, rfl⟩ (by kernel_rfl) rfl
    (fun f fn hf hfn => by
      obtain rfl : f = 3 := Option.some.inj ((show Tryd.prog.funcNamed "haulage/haulagelaw06.TypTells" = some 3 by kernel_rfl).symm.trans hf) |>.symm
      obtain rfl : fn = Tryd.f3 := (Option.some.inj (Tryd.func3.symm.trans hfn)).symm
      exact ⟨by kernel_rfl, fun j t ht => by
        rw [Tryd.params3] at ht
        have hm : t ∈ [23, 23, 25] := by simpa using Array.mem_of_getElem? ht
        have hall : ([23, 23, 25].all fun u => !Tryd.prog.wantsStandIn u) = true := by kernel_rfl
        exact (show Tryd.prog.wantsStandIn t = false by simpa using List.all_eq_true.1 hall t hm)⟩)
    (by kernel_rfl)
#print axioms proved
end Go.Proofs.YtlfjkbghgfljaaaDoor.typTells
