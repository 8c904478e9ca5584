/-
  SumMixes: for every three strings the law returns true: of strings of one length the checksum of their mixture is the mixture of their checksums. No condition but that the table reads as the program's text lays it (tied by the card).
-/
import Derived.Test.YtemdgmiaaehokaaDoorSumLivesC
import Derived.Test.YtemdgmiaaehokaaDoorSumMixC
import Derived.Test.YtemdgmiaaehokaaDoorTie
import Derived.Test.YtemdgmiaaehokaaDoorCards
import Derived.ProofKit
import Derived.OpenShut
import Derived.ShutString
import Derived.ChangeOld
import Derived.LaidMore
import Derived.SevenTiedAt
namespace Go.Proofs.YtemdgmiaaehokaaDoor.sumMixes
open Go.ChangeShapes Go.WideShapes Go.ChangeAt Go.RowKit
open Go.ChangeMaps (open_string shut_string)

theorem run_min4 (w : World) (x y z : Nat) : (Builtin.min_ #[3, 3, 3, 3] 3 #[.int .i64 x, .int .i64 y, .int .i64 z, .int .i64 300]).run Tryd.prog w = .ok (.int .i64 ((min (min (min x y) z) 300 : Nat) : Int)) w := by
  have e : (if (300 : Int) < (if (z : Int) < (if (y : Int) < x then (y : Int) else x) then (z : Int) else (if (y : Int) < x then (y : Int) else x)) then (300 : Int) else (if (z : Int) < (if (y : Int) < x then (y : Int) else x) then (z : Int) else (if (y : Int) < x then (y : Int) else x))) = ((min (min (min x y) z) 300 : Nat) : Int) := by
    repeat' split
    all_goals omega
  rw [← e]
  simp [Builtin.min_, Builtin.min2]

set_option maxRecDepth 100000 in
set_option maxHeartbeats 800000 in
theorem walk_t (a b c : ByteArray) (w : World) (ha : a.size ≤ maxLen) (hb : b.size ≤ maxLen) (hc : c.size ≤ maxLen) (ht : Tab w) :
    Calls Tryd.prog 6 #[.string a, .string b, .string c] w fun e w' => e = .returned (.bool true) ∧ Below w.heap.size w w' := by
  unfold maxLen at ha hb hc
  have HT := Lib.hid ht; clear ht
  have hmin := fun w' => run_min4 w' a.size b.size c.size
  have hn : min (min (min a.size b.size) c.size) 300 ≤ a.size ∧ min (min (min a.size b.size) c.size) 300 ≤ b.size ∧ min (min (min a.size b.size) c.size) 300 ≤ c.size ∧ min (min (min a.size b.size) c.size) 300 ≤ 300 := by omega
  generalize min (min (min a.size b.size) c.size) 300 = n at *
  obtain ⟨n1, n2, n3, n4⟩ := hn
  have ea : (a.extract 0 n).size = n := by simp; omega
  have eb : (b.extract 0 n).size = n := by simp; omega
  have ec : (c.extract 0 n).size = n := by simp; omega
  obtain ⟨m, hm⟩ : ∃ m : ByteArray, bs m = mix (bs (a.extract 0 n)) (bs (b.extract 0 n)) (bs (c.extract 0 n)) := ⟨⟨_⟩, rfl⟩
  have hmz : m.size = n := by
    rw [← bs_length, hm, mix_length _ _ _ (by rw [bs_length, bs_length, ea, eb]) (by rw [bs_length, bs_length, eb, ec]), bs_length, ea]
  have hcm : crc (bs m) = crc (bs (a.extract 0 n)) ^^^ crc (bs (b.extract 0 n)) ^^^ crc (bs (c.extract 0 n)) := by
    rw [hm]; exact crc_mix _ _ _ (by rw [bs_length, bs_length, ea, eb]) (by rw [bs_length, bs_length, eb, ec])
  have Hm := Lib.hid hm; clear hm
  have Hx1 : Hid (bits .xor .u32 ((crc (bs (a.extract 0 n)) : Nat) : Int) ((crc (bs (b.extract 0 n)) : Nat) : Int) = ((crc (bs (a.extract 0 n)) ^^^ crc (bs (b.extract 0 n)) : Nat) : Int)) := u32_xor_nat _ _ (crc_lt _) (crc_lt _)
  have Hx2 : Hid (bits .xor .u32 ((crc (bs (a.extract 0 n)) ^^^ crc (bs (b.extract 0 n)) : Nat) : Int) ((crc (bs (c.extract 0 n)) : Nat) : Int) = ((crc (bs (a.extract 0 n)) ^^^ crc (bs (b.extract 0 n)) ^^^ crc (bs (c.extract 0 n)) : Nat) : Int)) := u32_xor_nat _ _ (xor_lt32 (crc_lt _) (crc_lt _)) (crc_lt _)
  have Hcm := Lib.hid hcm; clear hcm
  go_enter Tryd.func6, Tryd.ntmps6
  go_wp2_with (go_at_call 8; refine (lives2_any _ HT.out).mono ?_; rintro e w1 ⟨rfl, hb1⟩; have HT1 := Lib.hid (HT.out.below hb1 HT.out.pos); have hs1 := hb1.size)
  go_region
  have hb1' : Below w.heap.size w w1.drew := hb1.drew
  have HT1' := Lib.hid HT1.out.drew
  have hs1' : w.heap.size ≤ w1.drew.heap.size := hs1
  generalize w1.drew = w2 at *
  generalize a.extract 0 n = a' at *
  generalize b.extract 0 n = b' at *
  generalize c.extract 0 n = c' at *
  have hx1 := Hx1.out
  have hx2 := Hx2.out
  go_wp2_with fail
  refine (mixed_as a' b' c' m _ (by omega) (by omega) (by omega) Hm.out).mono ?_
  rintro e w3 ⟨rfl, hb3⟩
  have HT2 := Lib.hid (HT1'.out.below hb3 HT1'.out.pos)
  have hs3 := hb3.size
  go_wp2_with fail
  refine (of_new _ _ _ m (by repeat (first | exact HT2.out | apply Tab.alloc | apply Tab.drew)) (by simp) (by omega)).mono ?_
  rintro e w4 ⟨rfl, rfl⟩
  rw [Hcm.out]
  go_wp2_with fail
  refine (of_new _ _ _ a' (by repeat (first | exact HT2.out | apply Tab.alloc | apply Tab.drew)) (by simp) (by omega)).mono ?_
  rintro e w4 ⟨rfl, rfl⟩
  go_wp2_with fail
  refine (of_new _ _ _ b' (by repeat (first | exact HT2.out | apply Tab.alloc | apply Tab.drew)) (by simp) (by omega)).mono ?_
  rintro e w4 ⟨rfl, rfl⟩
  go_wp2_with fail
  refine (of_new _ _ _ c' (by repeat (first | exact HT2.out | apply Tab.alloc | apply Tab.drew)) (by simp) (by omega)).mono ?_
  rintro e w4 ⟨rfl, rfl⟩
  go_wp2_with fail
  go_ret
  exact ⟨rfl, ((((hb1'.trans (hb3.mono hs1')).alloc (by omega) _).alloc (by simp; omega) _).alloc (by simp; omega) _).alloc (by simp; omega) _⟩

theorem walk (a b c : ByteArray) (w : World) (ha : a.size ≤ maxLen) (hb : b.size ≤ maxLen) (hc : c.size ≤ maxLen) (hL : laidMetH Tryd.prog Rows.sumMixesRow.laid w) :
    Calls Tryd.prog 6 #[.string a, .string b, .string c] w fun e w' => e = .returned (.bool true) ∧ Below w.heap.size w w' :=
  walk_t a b c w ha hb hc (tab_of hL)

theorem own : ownKnob Tryd.prog.godebug = none := by kernel_rfl
theorem laidOut : laidOutB Tryd.prog = true := by kernel_rfl
theorem door_met (os : Os) (args : Array Value) : laidMetH Tryd.prog Rows.sumMixesRow.laid ((World.doorLaid Tryd.prog 14 os).forCall (fun _ _ => 0) ⟨#[], args, []⟩).memory :=
  laidMetH_of_parts3 (fuel := 8) (laidMet_of_run' 8 (by kernel_rfl) (by kernel_rfl)) (by kernel_rfl) (by kernel_rfl)
set_option maxRecDepth 100000 in
theorem lifted (os : Os) (started : os.Started) (H : Type) (enc : TypeId × Value → H) :
    ReturnsInHanded {} Tryd.checked os 6 .any (fun w args => (Rows.sumMixesSpec.pre enc Tryd.prog Tryd.f6 [] false w args ∧ laidMetH Tryd.prog Rows.sumMixesRow.laid w) ∧ sizedMet enc Tryd.prog Tryd.f6 (OpenSpec.ofChange Rows.sumMixesSpec) false w args)
      (Rows.sumMixesSpec.post enc Tryd.prog Tryd.f6 false true false false) := by
  refine returnsInHanded_of_change_and (C := Tryd.checked) (X := fun w _ => laidMetH Tryd.prog Rows.sumMixesRow.laid w) (fun _ _ _ hh h => h.of_heap hh) own started (by kernel_rfl) Tryd.func6
    (ChangeSpec.witness_shaped (enc := enc) (C := Tryd.checked) (os := os) (X := fun w _ => laidMetH Tryd.prog Rows.sumMixesRow.laid w) false (World.doorLaid Tryd.prog 14 os) #[.string ByteArray.empty, .string ByteArray.empty, .string ByteArray.empty] 8 rfl (World.shaped_of_RefB (by kernel_rfl) (by kernel_rfl)) (by kernel_rfl) (by kernel_rfl) (by kernel_rfl) (door_met os _)) ?_
  intro W base args ds gs before hval0 hW hcnd _ hL _
  have hval : ∀ (j : Nat) t v, Tryd.f6.params[j]? = some t → args[j]? = some v → Value.okWide Tryd.prog W .any base t v := hval0
  have hW' := hW
  obtain ⟨p, q, hA0, hV, rfl, hfz, hnd⟩ := hW
  have hA : DataW.TrodAll enc Tryd.prog W 0 (fun _ => true) true Tryd.f6.params.toList args.toList ds p := hA0
  rw [Tryd.params6] at hA hval
  obtain ⟨v0, vs0, d0, ds0, p0, q0, hargs, rfl, rfl, h0, r0⟩ := trodAll_cons hA
  obtain ⟨v1, vs1, d1, ds1, p1, q1, rfl, rfl, rfl, h1, r1⟩ := trodAll_cons r0
  obtain ⟨v2, vs2, d2, ds2, p2, q2, rfl, rfl, rfl, h2, r2⟩ := trodAll_cons r1
  obtain ⟨rfl, rfl, rfl⟩ := trodAll_nil r2
  obtain rfl : args = #[v0, v1, v2] := by cases args; simp_all
  obtain ⟨rfl, rfl⟩ := trodVars_none hV
  obtain ⟨a0, rfl, rfl, rfl, w0⟩ := open_string Tryd.underlying9 (hval 0 9 v0 rfl rfl) h0
  obtain ⟨a1, rfl, rfl, rfl, w1⟩ := open_string Tryd.underlying9 (hval 1 9 v1 rfl rfl) h1
  obtain ⟨a2, rfl, rfl, rfl, w2⟩ := open_string Tryd.underlying9 (hval 2 9 v2 rfl rfl) h2
  clear hA0 hval0
  refine (walk a0 a1 a2 W w0 w1 w2 hL).mono fun e W' ⟨he, bel⟩ => ?_
  subst he
  exact ⟨_, rfl, _, _, _, [], _, [], hW', trodAll_mk1 (shut_bool Tryd.underlying4 _), (trodAll_cons_mk (shut_string Tryd.underlying9 w0) (trodAll_cons_mk (shut_string Tryd.underlying9 w1) (trodAll_cons_mk (shut_string Tryd.underlying9 w2) trodAll_mk0))), rfl, bel.frame _, fun h => by cases h⟩

theorem over : Rows.SumMixesSaid :=
  OpenClaim.holds_of_wide 6 Tryd.f6 rfl rfl rfl rfl rfl rfl rfl ⟨rfl, rfl, rfl, rfl, rfl⟩ rfl rfl rfl rfl rfl (by kernel_rfl) Tryd.func6 (by kernel_rfl)
    (of_decide_eq_true (by kernel_rfl)) (by unfold Func.isWrapper; first | (rw [if_pos (by decide +kernel)]; kernel_rfl) | (rw [if_neg (by decide +kernel)]; exact ⟨rfl, rfl⟩))
    (fun os started H enc _ => lifted os started H enc)

/-- the given statement: the card -/
theorem proved : Rows.SumMixesCardSaid :=
  Claim7.holds_tied_plain_at .later [] [.data] true (true, "7f5d82826fd25f180c9631bd5d0694f1548d33ac5d1ff6d5e1a73ffd6e78c1f2") false
    over (fun _ h => by cases h) (by kernel_rfl) (fun _ h => by cases h) sumMixes_row_tie rfl ⟨rfl, rfl⟩ (by kernel_rfl) rfl
    (fun f fn hf hfn => by
      obtain rfl : f = 6 := Option.some.inj ((show Tryd.prog.funcNamed "haulage/haulagelaw02.SumMixes" = some 6 by kernel_rfl).symm.trans hf) |>.symm
      obtain rfl : fn = Tryd.f6 := (Option.some.inj (Tryd.func6.symm.trans hfn)).symm
      exact ⟨by kernel_rfl, fun j t ht => by
        rw [Tryd.params6] at ht
        have hm : t ∈ [9, 9, 9] := by simpa using Array.mem_of_getElem? ht
        have hall : ([9, 9, 9].all fun u => !Tryd.prog.wantsStandIn u) = true := by kernel_rfl
        exact (show Tryd.prog.wantsStandIn t = false by simpa using List.all_eq_true.1 hall t hm)⟩)
    (by kernel_rfl)
#print axioms proved
end Go.Proofs.YtemdgmiaaehokaaDoor.sumMixes
