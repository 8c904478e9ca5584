/-
  TypCasts: for every value and every type the law returns true: the value as one of the type, or why it is none, is what the page says. No condition but that the two tables of package utf read as the program's text lays them (tied by the card).
-/
import Derived.Test.YtlfjkbghgfljaaaDoorTypLivesC
import Derived.Test.YtlfjkbghgfljaaaDoorTypRefCastC
import Derived.Test.YtlfjkbghgfljaaaDoorTypOpen
import Derived.Test.YtlfjkbghgfljaaaDoorValOpen
import Derived.Test.YtlfjkbghgfljaaaDoorTie
import Derived.Test.YtlfjkbghgfljaaaDoorCards
import Derived.ProofKit
import Derived.OpenShut
import Derived.ShutString
import Derived.ChangeOld
import Derived.LaidMore
import Derived.SevenTiedAt
namespace Go.Proofs.YtlfjkbghgfljaaaDoor.typCasts
open Go.ChangeShapes Go.WideShapes Go.ChangeAt Go.RowKit
open Go.ChangeMaps (open_string shut_string)

/-- a value and a type in their boxes -/
def BxVT (w w1 : World) (a b c x y : Value) : Prop := Blk3 w1 w.heap.size a b c ∧ Blk2 w1 (w.heap.size + 1) x y ∧ w.heap.size + 1 < w1.heap.size ∧ Below w.heap.size w w1
theorem BxVT.new (w : World) (a b c x y : Value) (t t2 : TypeId) : BxVT w ((w.alloc (.cells #[a, b, c] t)).alloc (.cells #[x, y] t2)) a b c x y :=
  ⟨(Blk3.new w a b c t).below ((Below.refl _ _).alloc (Nat.le_refl _) _) (by simp), Blk2.new _ _ x y t2 (by simp), by simp, ((Below.refl _ _).alloc (Nat.le_refl _) _).alloc (by simp) _⟩
theorem BxVT.step {w w1 w2 : World} {a b c x y : Value} (h : BxVT w w1 a b c x y) (hb : Below w1.heap.size w1 w2) : BxVT w w2 a b c x y := by
  obtain ⟨h1, h2, h3, h4⟩ := h
  have := hb.size
  exact ⟨h1.below hb (by omega), h2.below hb h3, by omega, h4.trans (hb.mono (by omega))⟩
theorem castR_form (k n : Int) (s : ByteArray) (tk tm : Int) : ∃ a b c e, castR k n s tk tm = .tuple #[VV a b c, .int .i64 e] := by
  unfold castR cR
  cases rightV k n (bs s)
  · exact ⟨_, _, _, _, rfl⟩
  cases rightT tk tm
  · exact ⟨_, _, _, _, rfl⟩
  cases (k == 0)
  · cases decide (k ≤ tk)
    · exact ⟨_, _, _, _, rfl⟩
    cases numK tk
    · cases decide (tm < ((conS k n s).size : Int))
      · exact ⟨_, _, _, _, rfl⟩
      · exact ⟨_, _, _, _, rfl⟩
    · exact ⟨_, _, _, _, rfl⟩
  · exact ⟨_, _, _, _, rfl⟩

set_option maxRecDepth 100000 in
set_option maxHeartbeats 3200000 in
theorem walk (k n : Int) (s : ByteArray) (tk tm : Int) (w : World) (_ : (Lit.int .i64 k).wf = true) (w0n : (Lit.int .i64 n).wf = true) (_ : s.size ≤ maxLen) (_ : (Lit.int .i64 tk).wf = true) (_ : (Lit.int .i64 tm).wf = true)
    (hL : laidMetH Tryd.prog Rows.typCastsRow.laid w) :
    Calls Tryd.prog 5 #[VV k n s, TT tk tm] w fun e w' => e = .returned (.bool true) ∧ Below w.heap.size w w' := by
  have HT := Lib.hid (utab_of (by kernel_rfl) (by repeat (first | exact List.Mem.head _ | apply List.Mem.tail)) (by repeat (first | exact List.Mem.head _ | apply List.Mem.tail)) hL)
  have hn := wfT w0n
  clear w0n hL
  by_cases hs : 300 < s.size
  · have hd : decide (300 < (s.size : Int)) = true := by simp; omega
    go_enter Tryd.func5, Tryd.ntmps5
    go_wp2_with fail
    refine (lives6_any _ ((HT.out.alloc _).alloc _)).mono ?_
    rintro e w1 ⟨rfl, hb1⟩
    have HB := Lib.hid ((BxVT.new w _ _ _ _ _ _ _).step hb1)
    clear hb1
    obtain ⟨⟨e0, e1, e2, _⟩, _⟩ := HB.out
    go_wp2_with fail
    go_ret
    exact ⟨rfl, HB.out.2.2.2⟩
  · have hd : decide (300 < (s.size : Int)) = false := by simp; omega
    have HC := Lib.hid (fun w ht => tcast_any k n s tk tm w ht hn.1 hn.2)
    have HD := Lib.hid (fun w => trcast_any k n s tk tm w hn.1 hn.2)
    clear hn hs
    obtain ⟨ra, rb, rc, re, hr⟩ := castR_form k n s tk tm
    rw [hr] at HC HD
    clear hr
    go_enter Tryd.func5, Tryd.ntmps5
    go_wp2_with fail
    refine (lives6_any _ ((HT.out.alloc _).alloc _)).mono ?_
    rintro e w1 ⟨rfl, hb1⟩
    have HT1 := Lib.hid (((HT.out.alloc _).alloc _).below hb1 (Nat.le_refl _))
    have HB := Lib.hid ((BxVT.new w _ _ _ _ _ _ _).step hb1)
    clear hb1
    obtain ⟨⟨c0, c1, c2, _⟩, ⟨d0, d1, _⟩, _⟩ := HB.out
    go_wp2_with fail
    refine (HC.out _ HT1.out).mono ?_
    rintro e w2 ⟨rfl, hb2⟩
    have HB2 := Lib.hid (HB.out.step hb2)
    clear hb2 c0 c1 c2 d0 d1
    have HB3 := Lib.hid (HB2.out.step ((Below.refl w2.heap.size w2).alloc (Nat.le_refl _) (.cells #[.int .i64 ra, .int .i64 rb, .string rc] 25)))
    obtain ⟨⟨c0, c1, c2, _⟩, ⟨d0, d1, _⟩, _⟩ := HB3.out
    obtain ⟨⟨g0, g1, g2, _⟩, ⟨i0, i1, _⟩, _⟩ := HB2.out
    go_wp2_with fail
    refine (HD.out _).mono ?_
    rintro e w3 ⟨rfl, hb3⟩
    have HR := Lib.hid ((Blk3.new w2 _ _ _ _).below hb3 (by simp))
    have hlt : w2.heap.size < w3.heap.size := by have := hb3.size; simp at this; omega
    have hbl := Lib.hid (HB3.out.step hb3).2.2.2
    clear hb3 c0 c1 c2 d0 d1 g0 g1 g2 i0 i1
    obtain ⟨c0, c1, c2, _⟩ := HR.out
    go_wp2_with fail
    go_ret
    have hb' := hbl.out
    exact ⟨rfl, by go_grown⟩
theorem own : ownKnob Tryd.prog.godebug = none := by kernel_rfl
theorem laidOut : laidOutB Tryd.prog = true := by kernel_rfl
theorem door_met (os : Os) (args : Array Value) : laidMetH Tryd.prog Rows.typCastsRow.laid ((World.doorLaid Tryd.prog 24 os).forCall (fun _ _ => 0) ⟨#[], args, []⟩).memory :=
  laidMetH_of_parts3 (fuel := 8) (laidMet_of_run' 8 (by kernel_rfl) (by kernel_rfl)) (by kernel_rfl) (by kernel_rfl)
set_option maxRecDepth 100000 in
theorem lifted (os : Os) (started : os.Started) (H : Type) (enc : TypeId × Value → H) :
    ReturnsInHanded {} Tryd.checked os 5 .any (fun w args => (Rows.typCastsSpec.pre enc Tryd.prog Tryd.f5 [] false w args ∧ laidMetH Tryd.prog Rows.typCastsRow.laid w) ∧ sizedMet enc Tryd.prog Tryd.f5 (OpenSpec.ofChange Rows.typCastsSpec) false w args)
      (Rows.typCastsSpec.post enc Tryd.prog Tryd.f5 false true false false) := by
  refine returnsInHanded_of_change_and (C := Tryd.checked) (X := fun w _ => laidMetH Tryd.prog Rows.typCastsRow.laid w) (fun _ _ _ hh h => h.of_heap hh) own started (by kernel_rfl) Tryd.func5
    (ChangeSpec.witness_shaped (enc := enc) (C := Tryd.checked) (os := os) (X := fun w _ => laidMetH Tryd.prog Rows.typCastsRow.laid w) false (World.doorLaid Tryd.prog 24 os) #[.agg #[.int .i64 0, .int .i64 0, .string ByteArray.empty], .agg #[.int .i64 0, .int .i64 0]] 8 rfl (World.shaped_of_RefB (by kernel_rfl) (by kernel_rfl)) (by kernel_rfl) (by kernel_rfl) (by kernel_rfl) (door_met os _)) ?_
  intro W base args ds gs before hval0 hW hcnd _ hL _
  have hval : ∀ (j : Nat) t v, Tryd.f5.params[j]? = some t → args[j]? = some v → Value.okWide Tryd.prog W .any base t v := hval0
  have hW' := hW
  obtain ⟨p, q, hA0, hV, rfl, hfz, hnd⟩ := hW
  have hA : DataW.TrodAll enc Tryd.prog W 0 (fun _ => true) true Tryd.f5.params.toList args.toList ds p := hA0
  rw [Tryd.params5] at hA hval
  obtain ⟨v0, vs0, d0, ds0, p0, q0, hargs, rfl, rfl, h0, r0⟩ := trodAll_cons hA
  obtain ⟨v1, vs1, d1, ds1, p1, q1, rfl, rfl, rfl, h1, r1⟩ := trodAll_cons r0
  obtain ⟨rfl, rfl, rfl⟩ := trodAll_nil r1
  obtain rfl : args = #[v0, v1] := by cases args; simp_all
  obtain ⟨rfl, rfl⟩ := trodVars_none hV
  obtain ⟨a0k, a0n, a0s, rfl, rfl, rfl, w0k, w0n, w0s⟩ := openV (hval 0 25 v0 rfl rfl) h0
  obtain ⟨a1k, a1m, rfl, rfl, rfl, w1k, w1m⟩ := openT (hval 1 23 v1 rfl rfl) h1
  clear hA0 hval0
  refine (walk a0k a0n a0s a1k a1m W w0k w0n w0s w1k w1m hL).mono fun e W' ⟨he, bel⟩ => ?_
  subst he
  exact ⟨_, rfl, _, _, _, [], _, [], hW', trodAll_mk1 (shut_bool Tryd.underlying4 _), (trodAll_cons_mk (shutV _ _ w0k w0n w0s) (trodAll_cons_mk (shutT _ _ w1k w1m) trodAll_mk0)), rfl, bel.frame _, fun h => by cases h⟩

theorem over : Rows.TypCastsSaid :=
  OpenClaim.holds_of_wide 5 Tryd.f5 rfl rfl rfl rfl rfl rfl rfl ⟨rfl, rfl, rfl, rfl, rfl⟩ rfl rfl rfl rfl rfl (by kernel_rfl) Tryd.func5 (by kernel_rfl)
    (of_decide_eq_true (by kernel_rfl)) (by unfold Func.isWrapper; first | (rw [if_pos (by decide +kernel)]; kernel_rfl) | (rw [if_neg (by decide +kernel)]; exact ⟨rfl, rfl⟩))
    (fun os started H enc _ => lifted os started H enc)

/-- the given statement: the card -/
theorem proved : Rows.TypCastsCardSaid :=
  Claim7.holds_tied_plain_at .later [] [.data, .data] true (true, "845853d3f8880bdd6136c05de4f38f3bb66592e8b8213e703d0902246d778162") false
    over (fun _ h => by cases h) (by kernel_rfl) (fun _ h => by cases h) typCasts_row_tie rfl ⟨rfl, rfl⟩ (by kernel_rfl) rfl
    (fun f fn hf hfn => by
      obtain rfl : f = 5 := Option.some.inj ((show Tryd.prog.funcNamed "haulage/haulagelaw06.TypCasts" = some 5 by kernel_rfl).symm.trans hf) |>.symm
      obtain rfl : fn = Tryd.f5 := (Option.some.inj (Tryd.func5.symm.trans hfn)).symm
      exact ⟨by kernel_rfl, fun j t ht => by
        rw [Tryd.params5] at ht
        have hm : t ∈ [25, 23] := by simpa using Array.mem_of_getElem? ht
        have hall : ([25, 23].all fun u => !Tryd.prog.wantsStandIn u) = true := by kernel_rfl
        exact (show Tryd.prog.wantsStandIn t = false by simpa using List.all_eq_true.1 hall t hm)⟩)
    (by kernel_rfl)
#print axioms proved
end Go.Proofs.YtlfjkbghgfljaaaDoor.typCasts
