/-
  TypJoins: for every two types the law returns true: the least type that is as wide as both is what the page says. No condition but that the two tables of package utf read as the program's text lays them (tied by the card).
-/
import Derived.Test.YtlfjkbghgfljaaaDoorTypLivesC
import Derived.Test.YtlfjkbghgfljaaaDoorTypRefJoin2C
import Derived.Test.YtlfjkbghgfljaaaDoorTypOpen
import Derived.Test.YtlfjkbghgfljaaaDoorTie
import Derived.Test.YtlfjkbghgfljaaaDoorCards
import Derived.ProofKit
import Derived.OpenShut
import Derived.ShutString
import Derived.ChangeOld
import Derived.LaidMore
import Derived.SevenTiedAt
namespace Go.Proofs.YtlfjkbghgfljaaaDoor.typJoins
open Go.ChangeShapes Go.WideShapes Go.ChangeAt Go.RowKit
open Go.ChangeMaps (open_string shut_string)

theorem joinR_form (k m k2 m2 : Int) : ∃ a b c, joinR k m k2 m2 = .tuple #[TT a b, .bool c] := by
  cases h1 : rightT k m
  · exact ⟨_, _, _, joinR_no k m k2 m2 (.inl h1)⟩
  cases h2 : rightT k2 m2
  · exact ⟨_, _, _, joinR_no k m k2 m2 (.inr h2)⟩
  exact ⟨_, _, _, joinR_yes k m k2 m2 h1 h2⟩
set_option maxRecDepth 100000 in
set_option maxHeartbeats 3200000 in
theorem walk (k m k2 m2 : Int) (w : World) (_ : (Lit.int .i64 k).wf = true) (_ : (Lit.int .i64 m).wf = true) (_ : (Lit.int .i64 k2).wf = true) (_ : (Lit.int .i64 m2).wf = true)
    (hL : laidMetH Tryd.prog Rows.typJoinsRow.laid w) :
    Calls Tryd.prog 4 #[TT k m, TT k2 m2] w fun e w' => e = .returned (.bool true) ∧ Below w.heap.size w w' := by
  have HT := Lib.hid (utab_of (by kernel_rfl) (by repeat (first | exact List.Mem.head _ | apply List.Mem.tail)) (by repeat (first | exact List.Mem.head _ | apply List.Mem.tail)) hL)
  clear hL
  have HC := Lib.hid (fun w => tjoin_any k m k2 m2 w)
  have HD := Lib.hid (fun w => trjoin_any k m k2 m2 w)
  obtain ⟨ra, rb, rc, hr⟩ := joinR_form k m k2 m2
  rw [hr] at HC HD
  clear hr
  go_enter Tryd.func4, Tryd.ntmps4
  go_wp2_with fail
  refine (lives6_any _ ((HT.out.alloc _).alloc _)).mono ?_
  rintro e w1 ⟨rfl, hb1⟩
  have HB := Lib.hid ((Bx.new w _ _ _ _ _ _).step hb1)
  clear hb1
  obtain ⟨⟨c0, c1, _⟩, ⟨d0, d1, _⟩, _⟩ := HB.out
  go_wp2_with fail
  refine (HC.out _).mono ?_
  rintro e w2 ⟨rfl, hb2⟩
  have HB2 := Lib.hid (HB.out.step hb2)
  clear hb2 c0 c1 d0 d1
  have HB3 := Lib.hid (HB2.out.step ((Below.refl w2.heap.size w2).alloc (Nat.le_refl _) (.cells #[.int .i64 ra, .int .i64 rb] 23)))
  obtain ⟨⟨c0, c1, _⟩, ⟨d0, d1, _⟩, hlt2, _⟩ := HB2.out
  have z0 : w.heap.size < w2.heap.size := by omega
  go_wp2_with fail
  refine (HD.out _).mono ?_
  rintro e w3 ⟨rfl, hb3⟩
  have HR := Lib.hid ((Blk2.new w2 _ _ _ _ rfl).below hb3 (by simp))
  have hlt : w2.heap.size < w3.heap.size := by have := hb3.size; simp at this; omega
  have hb' := (HB3.out.step hb3).2.2.2
  clear hb3 c0 c1 d0 d1
  obtain ⟨c0, c1, _⟩ := HR.out
  go_wp2_with fail
  go_ret
  exact ⟨rfl, by go_grown⟩
theorem own : ownKnob Tryd.prog.godebug = none := by kernel_rfl
theorem laidOut : laidOutB Tryd.prog = true := by kernel_rfl
theorem door_met (os : Os) (args : Array Value) : laidMetH Tryd.prog Rows.typJoinsRow.laid ((World.doorLaid Tryd.prog 24 os).forCall (fun _ _ => 0) ⟨#[], args, []⟩).memory :=
  laidMetH_of_parts3 (fuel := 8) (laidMet_of_run' 8 (by kernel_rfl) (by kernel_rfl)) (by kernel_rfl) (by kernel_rfl)
set_option maxRecDepth 100000 in
theorem lifted (os : Os) (started : os.Started) (H : Type) (enc : TypeId × Value → H) :
    ReturnsInHanded {} Tryd.checked os 4 .any (fun w args => (Rows.typJoinsSpec.pre enc Tryd.prog Tryd.f4 [] false w args ∧ laidMetH Tryd.prog Rows.typJoinsRow.laid w) ∧ sizedMet enc Tryd.prog Tryd.f4 (OpenSpec.ofChange Rows.typJoinsSpec) false w args)
      (Rows.typJoinsSpec.post enc Tryd.prog Tryd.f4 false true false false) := by
  refine returnsInHanded_of_change_and (C := Tryd.checked) (X := fun w _ => laidMetH Tryd.prog Rows.typJoinsRow.laid w) (fun _ _ _ hh h => h.of_heap hh) own started (by kernel_rfl) Tryd.func4
    (ChangeSpec.witness_shaped (enc := enc) (C := Tryd.checked) (os := os) (X := fun w _ => laidMetH Tryd.prog Rows.typJoinsRow.laid w) false (World.doorLaid Tryd.prog 24 os) #[.agg #[.int .i64 0, .int .i64 0], .agg #[.int .i64 0, .int .i64 0]] 8 rfl (World.shaped_of_RefB (by kernel_rfl) (by kernel_rfl)) (by kernel_rfl) (by kernel_rfl) (by kernel_rfl) (door_met os _)) ?_
  intro W base args ds gs before hval0 hW hcnd _ hL _
  have hval : ∀ (j : Nat) t v, Tryd.f4.params[j]? = some t → args[j]? = some v → Value.okWide Tryd.prog W .any base t v := hval0
  have hW' := hW
  obtain ⟨p, q, hA0, hV, rfl, hfz, hnd⟩ := hW
  have hA : DataW.TrodAll enc Tryd.prog W 0 (fun _ => true) true Tryd.f4.params.toList args.toList ds p := hA0
  rw [Tryd.params4] at hA hval
  obtain ⟨v0, vs0, d0, ds0, p0, q0, hargs, rfl, rfl, h0, r0⟩ := trodAll_cons hA
  obtain ⟨v1, vs1, d1, ds1, p1, q1, rfl, rfl, rfl, h1, r1⟩ := trodAll_cons r0
  obtain ⟨rfl, rfl, rfl⟩ := trodAll_nil r1
  obtain rfl : args = #[v0, v1] := by cases args; simp_all
  obtain ⟨rfl, rfl⟩ := trodVars_none hV
  obtain ⟨a0k, a0m, rfl, rfl, rfl, w0k, w0m⟩ := openT (hval 0 23 v0 rfl rfl) h0
  obtain ⟨a1k, a1m, rfl, rfl, rfl, w1k, w1m⟩ := openT (hval 1 23 v1 rfl rfl) h1
  clear hA0 hval0
  refine (walk a0k a0m a1k a1m W w0k w0m w1k w1m hL).mono fun e W' ⟨he, bel⟩ => ?_
  subst he
  exact ⟨_, rfl, _, _, _, [], _, [], hW', trodAll_mk1 (shut_bool Tryd.underlying4 _), (trodAll_cons_mk (shutT _ _ w0k w0m) (trodAll_cons_mk (shutT _ _ w1k w1m) trodAll_mk0)), rfl, bel.frame _, fun h => by cases h⟩

theorem over : Rows.TypJoinsSaid :=
  OpenClaim.holds_of_wide 4 Tryd.f4 rfl rfl rfl rfl rfl rfl rfl ⟨rfl, rfl, rfl, rfl, rfl⟩ rfl rfl rfl rfl rfl (by kernel_rfl) Tryd.func4 (by kernel_rfl)
    (of_decide_eq_true (by kernel_rfl)) (by unfold Func.isWrapper; first | (rw [if_pos (by decide +kernel)]; kernel_rfl) | (rw [if_neg (by decide +kernel)]; exact ⟨rfl, rfl⟩))
    (fun os started H enc _ => lifted os started H enc)

/-- the given statement: the card -/
theorem proved : Rows.TypJoinsCardSaid :=
  Claim7.holds_tied_plain_at .later [] [.data, .data] true (true, "845853d3f8880bdd6136c05de4f38f3bb66592e8b8213e703d0902246d778162") false
    over (fun _ h => by cases h) (by kernel_rfl) (fun _ h => by cases h) typJoins_row_tie rfl ⟨rfl, rfl⟩ (by kernel_rfl) rfl
    (fun f fn hf hfn => by
      obtain rfl : f = 4 := Option.some.inj ((show Tryd.prog.funcNamed "haulage/haulagelaw06.TypJoins" = some 4 by kernel_rfl).symm.trans hf) |>.symm
      obtain rfl : fn = Tryd.f4 := (Option.some.inj (Tryd.func4.symm.trans hfn)).symm
      exact ⟨by kernel_rfl, fun j t ht => by
        rw [Tryd.params4] at ht
        have hm : t ∈ [23, 23] := by simpa using Array.mem_of_getElem? ht
        have hall : ([23, 23].all fun u => !Tryd.prog.wantsStandIn u) = true := by kernel_rfl
        exact (show Tryd.prog.wantsStandIn t = false by simpa using List.all_eq_true.1 hall t hm)⟩)
    (by kernel_rfl)
#print axioms proved
end Go.Proofs.YtlfjkbghgfljaaaDoor.typJoins
