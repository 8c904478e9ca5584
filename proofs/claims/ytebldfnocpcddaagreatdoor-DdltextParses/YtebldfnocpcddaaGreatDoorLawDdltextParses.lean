/-
  DdltextParses: for every text the law returns true: the change that it writes, or where it is wrong first, and why, is what the page says. No condition but that the tables of packages utf, typ and ddltext read as the program's text lays them (tied by the card).
-/
import Derived.Test.YtebldfnocpcddaaGreatDoorTie
import Derived.Test.YtebldfnocpcddaaGreatDoorCards
import Derived.ProofKit
import Derived.OpenShut
import Derived.ShutString
import Derived.ChangeOld
import Derived.LaidMore
import Derived.SevenTiedAt
import Derived.Lay
import Derived.Test.YtebldfnocpcddaaGreatDoorPart34
import Derived.Test.YtebldfnocpcddaaGreatDoorPart36
namespace Go.Proofs.YtebldfnocpcddaaGreatDoor.ddltextParses
open Go.ChangeShapes Go.WideShapes Go.ChangeAt Go.RowKit
open Go.ChangeMaps (open_string shut_string)

theorem sameD_p (a b : Db) (h : a.p = b.p) : sameD a b = true := by
  have := sameD_self a
  unfold sameD at this ⊢
  rw [← h]; exact this
set_option maxRecDepth 100000 in
set_option maxHeartbeats 3200000 in
theorem walk_t (s : ByteArray) (w : World) (hT : Tbs w) :
    Calls Tryz.prog 4 #[.string s] w fun e w' => e = .returned (.bool true) ∧ Below w.heap.size w w' := by
  have HT := Lib.hid hT; clear hT
  by_cases hs : 1500 < s.size
  · have hd : decide ((1500 : Int) < (s.size : Int)) = true := by simp; omega
    have hd2 : (1500 : Int) < (s.size : Int) := by omega
    clear hs
    go_enter Tryz.func4, Tryz.ntmps4
    go_wp2_with fail
    refine (lives10_any _ HT.out).mono ?_
    rintro e w1 ⟨rfl, hb1⟩
    have Hb1 := Lib.hid hb1; clear hb1
    go_wp2_with fail
    go_ret
    exact ⟨rfl, Hb1.out⟩
  have hd : decide ((1500 : Int) < (s.size : Int)) = false := by simp; omega
  have hd2 : ¬ (1500 : Int) < (s.size : Int) := by omega
  have hsz : s.size ≤ 1000000 := by omega
  clear hs
  go_enter Tryz.func4, Tryz.ntmps4
  go_wp2_with fail
  refine (lives10_any _ HT.out).mono ?_
  rintro e w1 ⟨rfl, hb1⟩
  have Hb1 := Lib.hid hb1
  have HT1 := Lib.hid (HT.out.below hb1); clear hb1
  go_wp2_with fail
  refine (qparse_any s _ HT1.out hsz).mono ?_
  rintro e w2 ⟨hb, ⟨p, A, cap⟩, a, er, rfl, hda, hl, hr⟩
  have hl : p.cols.length ≤ 10 := hl
  have hl1 : p.cols.length ≤ 1000000 := by omega
  have HD := Lib.hid hda; have HR := Lib.hid hr; have Hl := Lib.hid hl1
  have Hb2 := Lib.hid (bthen Hb1.out hb)
  clear hb hda hl hr hd hd2 hl1
  obtain ⟨w3, hw3⟩ : ∃ w3, w2.alloc (.cells #[.int .i64 p.op, .string p.tb, .string p.co, .string p.to, .string p.key, .int .i64 p.tk, .int .i64 p.tm, .bool p.nl, .int .i64 p.dk, .int .i64 p.dn, .string p.ds, .slice A p.cols.length cap] 28) = w3 := ⟨_, rfl⟩
  have hb3 : Below w2.heap.size w2 w3 := by rw [← hw3]; exact (Below.refl _ _).alloc (Nat.le_refl _) _
  obtain ⟨J, hJ⟩ : ∃ J, w2.heap.size = J := ⟨_, rfl⟩
  have HK : Hid (Bk 28 w3 J (fD ⟨p, A, cap⟩)) := by rw [← hw3, ← hJ]; exact Bk.new w2 (fD ⟨p, A, cap⟩) 28
  have HD3 := Lib.hid (HD.out.to hb3)
  have Hb3 := Lib.hid (bthen Hb2.out hb3)
  have Hw3 := Lib.hid hw3; have HJ := Lib.hid hJ; clear hw3 hb3 hJ
  go_upto_region 6 with fail
  rw [Hw3.out]
  try rw [HJ.out]
  go_wp2_with fail
  refine (rparse_any s _ hsz).mono ?_
  rintro e w4 ⟨hb, ⟨p2, A2, cap2⟩, a2, er2, rfl, hda, _, hr⟩
  obtain ⟨h1, rfl, rfl⟩ := HR.out.unique hr
  have h1 : p = p2 := h1
  subst h1
  have HD4 := Lib.hid (HD3.out.to hb); have HE4 := Lib.hid hda; have HK4 := Lib.hid (HK.out.below hb)
  have Hb4 := Lib.hid (bthen Hb3.out hb)
  clear hb hda hr
  obtain ⟨w5, hw5⟩ : ∃ w5, w4.alloc (.cells #[.int .i64 p.op, .string p.tb, .string p.co, .string p.to, .string p.key, .int .i64 p.tk, .int .i64 p.tm, .bool p.nl, .int .i64 p.dk, .int .i64 p.dn, .string p.ds, .slice A2 p.cols.length cap2] 28) = w5 := ⟨_, rfl⟩
  have hb5 : Below w4.heap.size w4 w5 := by rw [← hw5]; exact (Below.refl _ _).alloc (Nat.le_refl _) _
  obtain ⟨K, hK⟩ : ∃ K, w4.heap.size = K := ⟨_, rfl⟩
  have HM : Hid (Bk 28 w5 K (fD ⟨p, A2, cap2⟩)) := by rw [← hw5, ← hK]; exact Bk.new w4 (fD ⟨p, A2, cap2⟩) 28
  have HK5 := Lib.hid (HK4.out.below hb5)
  have Hb5 := Lib.hid (bthen Hb4.out hb5)
  have HS := Lib.hid (rsame9_any ⟨p, A, cap⟩ ⟨p, A2, cap2⟩ w5 (HD4.out.to hb5) (HE4.out.to hb5) Hl.out Hl.out)
  rw [sameD_p ⟨p, A, cap⟩ ⟨p, A2, cap2⟩ rfl] at HS
  have Hw5 := Lib.hid hw5; have HKe := Lib.hid hK; clear hw5 hb5 hK
  have ea : ((a : Int) == (a : Int)) = true := by simp
  have ee : ((er : Int) == (er : Int)) = true := by simp
  go_upto_region 7 with fail
  rw [Hw5.out]
  try rw [HKe.out]
  have x0 := HK5.out.at 0 _ rfl; have x1 := HK5.out.at 1 _ rfl; have x2 := HK5.out.at 2 _ rfl; have x3 := HK5.out.at 3 _ rfl; have x4 := HK5.out.at 4 _ rfl; have x5 := HK5.out.at 5 _ rfl
  have x6 := HK5.out.at 6 _ rfl; have x7 := HK5.out.at 7 _ rfl; have x8 := HK5.out.at 8 _ rfl; have x9 := HK5.out.at 9 _ rfl; have x10 := HK5.out.at 10 _ rfl; have x11 := HK5.out.at 11 _ rfl
  have y0 := HM.out.at 0 _ rfl; have y1 := HM.out.at 1 _ rfl; have y2 := HM.out.at 2 _ rfl; have y3 := HM.out.at 3 _ rfl; have y4 := HM.out.at 4 _ rfl; have y5 := HM.out.at 5 _ rfl
  have y6 := HM.out.at 6 _ rfl; have y7 := HM.out.at 7 _ rfl; have y8 := HM.out.at 8 _ rfl; have y9 := HM.out.at 9 _ rfl; have y10 := HM.out.at 10 _ rfl; have y11 := HM.out.at 11 _ rfl
  go_wp2_with fail
  refine HS.out.mono ?_
  rintro e w6 ⟨rfl, hb6⟩
  have Hb6 := Lib.hid (bthen Hb5.out hb6); clear hb6 x0 x1 x2 x3 x4 x5 x6 x7 x8 x9 x10 x11 y0 y1 y2 y3 y4 y5 y6 y7 y8 y9 y10 y11
  go_wp2_with fail
  go_ret
  exact ⟨rfl, Hb6.out⟩
theorem walk (s : ByteArray) (w : World) (_ : s.size ≤ maxLen) (hL : laidMetH Tryz.prog Rows.ddltextParsesRow.laid w) :
    Calls Tryz.prog 4 #[.string s] w fun e w' => e = .returned (.bool true) ∧ Below w.heap.size w w' :=
  walk_t s w ⟨utab_of (by kernel_rfl) (by repeat (first | exact List.Mem.head _ | apply List.Mem.tail)) (by repeat (first | exact List.Mem.head _ | apply List.Mem.tail)) hL, ktab_of (by kernel_rfl) (by repeat (first | exact List.Mem.head _ | apply List.Mem.tail)) hL, wtab_of (by kernel_rfl) (by repeat (first | exact List.Mem.head _ | apply List.Mem.tail)) hL⟩
theorem own : ownKnob Tryz.prog.godebug = none := by kernel_rfl
theorem laidOut : laidOutB Tryz.prog = true := by kernel_rfl
theorem door_met (os : Os) (args : Array Value) : laidMetH Tryz.prog Rows.ddltextParsesRow.laid ((World.laidAll Tryz.prog os Rows.ddltextParsesRow.laid).forCall (fun _ _ => 0) ⟨#[], args, []⟩).memory := by
  rw [MakeChecks.laidMetH_plain _ _ _ (by kernel_rfl)]
  exact laidMet_laidAll args (by kernel_rfl) (by kernel_rfl)
set_option maxRecDepth 100000 in
theorem lifted (os : Os) (started : os.Started) (H : Type) (enc : TypeId × Value → H) :
    ReturnsInHanded {} Tryz.checked os 4 .any (fun w args => (Rows.ddltextParsesSpec.pre enc Tryz.prog Tryz.f4 [] false w args ∧ laidMetH Tryz.prog Rows.ddltextParsesRow.laid w) ∧ sizedMet enc Tryz.prog Tryz.f4 (OpenSpec.ofChange Rows.ddltextParsesSpec) false w args)
      (Rows.ddltextParsesSpec.post enc Tryz.prog Tryz.f4 false true false false) := by
  refine returnsInHanded_of_change_and (C := Tryz.checked) (X := fun w _ => laidMetH Tryz.prog Rows.ddltextParsesRow.laid w) (fun _ _ _ hh h => h.of_heap hh) own started (by kernel_rfl) Tryz.func4
    (ChangeSpec.witness_shaped (enc := enc) (C := Tryz.checked) (os := os) (X := fun w _ => laidMetH Tryz.prog Rows.ddltextParsesRow.laid w) false (World.laidAll Tryz.prog os Rows.ddltextParsesRow.laid) #[.string ByteArray.empty] 8 (World.laidAll_os _ _ _) (World.shaped_of_ZipB (by kernel_rfl) (by kernel_rfl)) (by kernel_rfl) (by kernel_rfl) (by kernel_rfl) (door_met os _)) ?_
  intro W base args ds gs before hval0 hW hcnd _ hL _
  have hval : ∀ (j : Nat) t v, Tryz.f4.params[j]? = some t → args[j]? = some v → Value.okWide Tryz.prog W .any base t v := hval0
  have hW' := hW
  obtain ⟨p, q, hA0, hV, rfl, hfz, hnd⟩ := hW
  have hA : DataW.TrodAll enc Tryz.prog W 0 (fun _ => true) true Tryz.f4.params.toList args.toList ds p := hA0
  rw [Tryz.params4] at hA hval
  obtain ⟨v0, vs0, d0, ds0, p0, q0, hargs, rfl, rfl, h0, r0⟩ := trodAll_cons hA
  obtain ⟨rfl, rfl, rfl⟩ := trodAll_nil r0
  obtain rfl : args = #[v0] := by cases args; simp_all
  obtain ⟨rfl, rfl⟩ := trodVars_none hV
  obtain ⟨a0, rfl, rfl, rfl, w0⟩ := open_string Tryz.underlying9 (hval 0 9 v0 rfl rfl) h0
  clear hA0 hval0
  refine (walk a0 W w0 hL).mono fun e W' ⟨he, bel⟩ => ?_
  subst he
  exact ⟨_, rfl, _, _, _, [], _, [], hW', trodAll_mk1 (shut_bool Tryz.underlying4 _), (trodAll_cons_mk (shut_string Tryz.underlying9 w0) trodAll_mk0), rfl, bel.frame _, fun h => by cases h⟩

theorem over : Rows.DdltextParsesSaid :=
  OpenClaim.holds_of_wide 4 Tryz.f4 rfl rfl rfl rfl rfl rfl rfl ⟨rfl, rfl, rfl, rfl, rfl⟩ rfl rfl rfl rfl rfl (by kernel_rfl) Tryz.func4 (by kernel_rfl)
    (of_decide_eq_true (by kernel_rfl)) (by unfold Func.isWrapper; first | (rw [if_pos (by decide +kernel)]; kernel_rfl) | (rw [if_neg (by decide +kernel)]; exact ⟨rfl, rfl⟩))
    (fun os started H enc _ => lifted os started H enc)

/-- the given statement: the card -/
theorem proved : Rows.DdltextParsesCardSaid :=
  Claim7.holds_tied_plain_at .later [] [.data, .data, .data, .data, .data, .pinned] true (true, "0cb059bcbcc0aca0d26491598ff56dcbb5a3f1857b9cdcd3953b8b2bd2b7305c") true
    over (fun _ h => by cases h) (by kernel_rfl) (fun _ h => by cases h) ddltextParses_row_tie rfl ⟨rfl, rfl⟩ (by kernel_rfl) rfl
    (fun f fn hf hfn => by
      obtain rfl : f = 4 := Option.some.inj ((show Tryz.prog.funcNamed "haulage/haulagelaw10.DdltextParses" = some 4 by kernel_rfl).symm.trans hf) |>.symm
      obtain rfl : fn = Tryz.f4 := (Option.some.inj (Tryz.func4.symm.trans hfn)).symm
      exact ⟨by kernel_rfl, fun j t ht => by
        rw [Tryz.params4] at ht
        have hm : t ∈ [9] := by simpa using Array.mem_of_getElem? ht
        have hall : ([9].all fun u => !Tryz.prog.wantsStandIn u) = true := by kernel_rfl
        exact (show Tryz.prog.wantsStandIn t = false by simpa using List.all_eq_true.1 hall t hm)⟩)
    (by kernel_rfl)
#print axioms proved
end Go.Proofs.YtebldfnocpcddaaGreatDoor.ddltextParses
