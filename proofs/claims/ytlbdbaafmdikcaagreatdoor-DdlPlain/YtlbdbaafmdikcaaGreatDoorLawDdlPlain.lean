/-
  DdlPlain: for every two changes the law returns true: whether any change is plain, which tables' names it touches, and whether two are alike, is what the page says. No condition but that the two tables of package utf read as the program's text lays them (tied by the card).
-/
import Derived.Test.YtlbdbaafmdikcaaGreatDoorTie
import Derived.Test.YtlbdbaafmdikcaaGreatDoorCards
import Derived.ProofKit
import Derived.OpenShut
import Derived.ShutString
import Derived.ChangeOld
import Derived.LaidMore
import Derived.SevenTiedAt
import Derived.Deep.RegionHeld3
import Derived.Test.YtlbdbaafmdikcaaGreatDoorPart1
import Derived.Test.YtlbdbaafmdikcaaGreatDoorPart2
import Derived.Test.YtlbdbaafmdikcaaGreatDoorPart3
import Derived.Test.YtlbdbaafmdikcaaGreatDoorPart4
import Derived.Test.YtlbdbaafmdikcaaGreatDoorPart5
namespace Go.Proofs.YtlbdbaafmdikcaaGreatDoor.ddlPlain
open Go.ChangeShapes Go.WideShapes Go.ChangeAt Go.RowKit
open Go.ChangeMaps (open_string shut_string)

set_option maxRecDepth 100000 in
set_option maxHeartbeats 6400000 in
theorem walk_t (a b : Db) (w : World) (hin : InD w a) (hs : SmD a.p) (hin2 : InD w b) (hs2 : SmD b.p) (ht : UTab w) :
    Calls Tryz.prog 3 #[DV a, DV b] w fun e w' => e = .returned (.bool true) ∧ Below w.heap.size w w' := by
  obtain ⟨w0, hw0, hb0, hX, hY, hs0⟩ := box_dd w a b
  have Hw0 := Lib.hid hw0; clear hw0
  have HbW := Lib.hid hb0
  have HX := Lib.hid hX; clear hX
  have HY := Lib.hid hY; clear hY
  have Hs0 := Lib.hid hs0; clear hs0
  have HA := Lib.hid (DdlAt.to hin.2.2.2.2.2.2.2.2.2.2.2.2.1 hb0)
  have HB := Lib.hid (DdlAt.to hin2.2.2.2.2.2.2.2.2.2.2.2.2.1 hb0)
  have HT := Lib.hid (ht.below hb0 (Nat.le_refl _)); clear ht hb0
  have HLv := Lib.hid (lives9_any w0 HT.out)
  have HFa := Lib.hid (fun w' h => few9_any a w' h hin.2.2.2.2.2.2.2.2.2.2.1 hs)
  have HFb := Lib.hid (fun w' h => few9_any b w' h hin2.2.2.2.2.2.2.2.2.2.2.1 hs2)
  have HWa := Lib.hid (fun h => WfD_of (d := a) h hin)
  have HWb := Lib.hid (fun h => WfD_of (d := b) h hin2)
  clear hin hin2 hs hs2
  go_enter Tryz.func3, Tryz.ntmps3
  go_wp2_with fail
  try rw [Hw0.out]
  refine (HLv.out).mono ?_
  rintro e w1 ⟨rfl, hb⟩
  have Hb1 := Lib.hid hb
  clear hb
  try clear x0 x1 x2 x3 x4 x5 x6 x7 x8 x9 x10 x11
  obtain ⟨x0, x1, x2, x3, x4, x5, x6, x7, x8, x9, x10, x11⟩ := (HX.out.below Hb1.out (by have := Hs0.out; omega)).ddl
  try clear y0 y1 y2 y3 y4 y5 y6 y7 y8 y9 y10 y11
  obtain ⟨y0, y1, y2, y3, y4, y5, y6, y7, y8, y9, y10, y11⟩ := (HY.out.below Hb1.out (by have := Hs0.out; omega)).ddl
  go_wp2_with fail
  refine (HFa.out w1 (HA.out.to Hb1.out)).mono ?_
  rintro e w2 ⟨rfl, hb⟩
  have Hb2 := Lib.hid (bthen Hb1.out hb)
  clear hb
  try clear x0 x1 x2 x3 x4 x5 x6 x7 x8 x9 x10 x11
  obtain ⟨x0, x1, x2, x3, x4, x5, x6, x7, x8, x9, x10, x11⟩ := (HX.out.below Hb2.out (by have := Hs0.out; omega)).ddl
  try clear y0 y1 y2 y3 y4 y5 y6 y7 y8 y9 y10 y11
  obtain ⟨y0, y1, y2, y3, y4, y5, y6, y7, y8, y9, y10, y11⟩ := (HY.out.below Hb2.out (by have := Hs0.out; omega)).ddl
  cases hfa : fewD a.p
  · go_wp2_with fail
    go_ret
    exact ⟨by rw []; rfl, bthen HbW.out Hb2.out⟩
  go_wp2_with fail
  refine (HFb.out w2 (HB.out.to Hb2.out)).mono ?_
  rintro e w3 ⟨rfl, hb⟩
  have Hb3 := Lib.hid (bthen Hb2.out hb)
  clear hb
  try clear x0 x1 x2 x3 x4 x5 x6 x7 x8 x9 x10 x11
  obtain ⟨x0, x1, x2, x3, x4, x5, x6, x7, x8, x9, x10, x11⟩ := (HX.out.below Hb3.out (by have := Hs0.out; omega)).ddl
  try clear y0 y1 y2 y3 y4 y5 y6 y7 y8 y9 y10 y11
  obtain ⟨y0, y1, y2, y3, y4, y5, y6, y7, y8, y9, y10, y11⟩ := (HY.out.below Hb3.out (by have := Hs0.out; omega)).ddl
  cases hfb : fewD b.p
  · go_wp2_with fail
    go_ret
    exact ⟨by rw []; rfl, bthen HbW.out Hb3.out⟩
  have Hwa := Lib.hid (HWa.out hfa)
  have Hwb := Lib.hid (HWb.out hfb)
  clear hfa hfb HWa HWb HFa HFb HLv
  have HAx : Hid (∀ X, Below w0.heap.size w0 X → DdlAt X X.heap.size a) := fun X h => HA.out.to h
  have HBx : Hid (∀ X, Below w0.heap.size w0 X → DdlAt X X.heap.size b) := fun X h => HB.out.to h
  have hla := Hwa.out.2.2.2.2.1
  have hlb := Hwb.out.2.2.2.2.1
  have HP1 := Lib.hid (fun w' h => dplain_any a w' h hla)
  have HP2 := Lib.hid (fun w' h => rplain_any a w' h hla)
  have HN1 := Lib.hid (fun w' h => dnames_any a w' h Hwa.out)
  have HN2 := Lib.hid (fun w' h => rnames9_any a w' h Hwa.out)
  have m1 : Hid True := trivial
  have HS := Lib.hid (fun w' h1 h2 => dsame_any a b w' h1 h2 hla hlb)
  have HSr := Lib.hid (fun w' h1 h2 => rsame9_any a b w' h1 h2 hla hlb)
  have HSa := Lib.hid (fun w' h1 h2 => dsame_any a a w' h1 h2 hla hla)
  rw [eqP_same] at HS
  rw [eqP_self] at HSa
  generalize plainD a.p = pl at HP1 HP2
  generalize sameD a b = sm at HS HSr
  have hpp : (pl == pl) = true := by cases pl <;> rfl
  have hss : (sm == sm) = true := by cases sm <;> rfl
  go_wp2_with fail
  go_region_held3 (fun w' => w'.cell? ⟨w.heap.size, 0, none⟩ = some (.int .i64 a.p.op) ∧ w'.cell? ⟨w.heap.size, 1, none⟩ = some (.string a.p.tb) ∧ w'.cell? ⟨w.heap.size, 2, none⟩ = some (.string a.p.co) ∧ w'.cell? ⟨w.heap.size, 3, none⟩ = some (.string a.p.to) ∧ w'.cell? ⟨w.heap.size, 4, none⟩ = some (.string a.p.key) ∧ w'.cell? ⟨w.heap.size, 5, none⟩ = some (.int .i64 a.p.tk) ∧ w'.cell? ⟨w.heap.size, 6, none⟩ = some (.int .i64 a.p.tm) ∧ w'.cell? ⟨w.heap.size, 7, none⟩ = some (.bool a.p.nl) ∧ w'.cell? ⟨w.heap.size, 8, none⟩ = some (.int .i64 a.p.dk) ∧ w'.cell? ⟨w.heap.size, 9, none⟩ = some (.int .i64 a.p.dn) ∧ w'.cell? ⟨w.heap.size, 10, none⟩ = some (.string a.p.ds) ∧ w'.cell? ⟨w.heap.size, 11, none⟩ = some (.slice a.A a.p.cols.length a.cap) ∧ w'.cell? ⟨w.heap.size + 1, 0, none⟩ = some (.int .i64 b.p.op) ∧ w'.cell? ⟨w.heap.size + 1, 1, none⟩ = some (.string b.p.tb) ∧ w'.cell? ⟨w.heap.size + 1, 2, none⟩ = some (.string b.p.co) ∧ w'.cell? ⟨w.heap.size + 1, 3, none⟩ = some (.string b.p.to) ∧ w'.cell? ⟨w.heap.size + 1, 4, none⟩ = some (.string b.p.key) ∧ w'.cell? ⟨w.heap.size + 1, 5, none⟩ = some (.int .i64 b.p.tk) ∧ w'.cell? ⟨w.heap.size + 1, 6, none⟩ = some (.int .i64 b.p.tm) ∧ w'.cell? ⟨w.heap.size + 1, 7, none⟩ = some (.bool b.p.nl) ∧ w'.cell? ⟨w.heap.size + 1, 8, none⟩ = some (.int .i64 b.p.dk) ∧ w'.cell? ⟨w.heap.size + 1, 9, none⟩ = some (.int .i64 b.p.dn) ∧ w'.cell? ⟨w.heap.size + 1, 10, none⟩ = some (.string b.p.ds) ∧ w'.cell? ⟨w.heap.size + 1, 11, none⟩ = some (.slice b.A b.p.cols.length b.cap))
    (exact ⟨x0, x1, x2, x3, x4, x5, x6, x7, x8, x9, x10, x11, y0, y1, y2, y3, y4, y5, y6, y7, y8, y9, y10, y11⟩)
    (first
    | (go_at_call 8; refine (HP1.out _ (HAx.out _ (bthen Hb3.out (by go_grown)))).mono ?_; rintro e w4 ⟨rfl, hb⟩; have Hd4 : Hid (Below w3.heap.size w3 w4) := bthen (by go_grown) hb; have Hb4 := Lib.hid (bthen Hb3.out Hd4.out); clear hb; clear x0 x1 x2 x3 x4 x5 x6 x7 x8 x9 x10 x11 y0 y1 y2 y3 y4 y5 y6 y7 y8 y9 y10 y11; obtain ⟨x0, x1, x2, x3, x4, x5, x6, x7, x8, x9, x10, x11⟩ := (HX.out.below Hb4.out (by have := Hs0.out; omega)).ddl; obtain ⟨y0, y1, y2, y3, y4, y5, y6, y7, y8, y9, y10, y11⟩ := (HY.out.below Hb4.out (by have := Hs0.out; omega)).ddl)
    | (go_at_call 9; refine (HP2.out _ (HAx.out _ (bthen Hb4.out (by go_grown)))).mono ?_; rintro e w5 ⟨rfl, hb⟩; have Hd5 : Hid (Below w4.heap.size w4 w5) := bthen (by go_grown) hb; have Hb5 := Lib.hid (bthen Hb4.out Hd5.out); clear hb; clear x0 x1 x2 x3 x4 x5 x6 x7 x8 x9 x10 x11 y0 y1 y2 y3 y4 y5 y6 y7 y8 y9 y10 y11; obtain ⟨x0, x1, x2, x3, x4, x5, x6, x7, x8, x9, x10, x11⟩ := (HX.out.below Hb5.out (by have := Hs0.out; omega)).ddl; obtain ⟨y0, y1, y2, y3, y4, y5, y6, y7, y8, y9, y10, y11⟩ := (HY.out.below Hb5.out (by have := Hs0.out; omega)).ddl)
    | (go_at_call 11; refine (HN1.out _ (HAx.out _ (bthen Hb5.out (by go_grown)))).mono ?_; rintro e w6 ⟨A1, c1, l1, rfl, hl1, hn1, hs1, hb⟩; have Hd6 : Hid (Below w5.heap.size w5 w6) := bthen (by go_grown) hb; have Hb6 := Lib.hid (bthen Hb5.out Hd6.out); clear hb; clear x0 x1 x2 x3 x4 x5 x6 x7 x8 x9 x10 x11 y0 y1 y2 y3 y4 y5 y6 y7 y8 y9 y10 y11; obtain ⟨x0, x1, x2, x3, x4, x5, x6, x7, x8, x9, x10, x11⟩ := (HX.out.below Hb6.out (by have := Hs0.out; omega)).ddl; obtain ⟨y0, y1, y2, y3, y4, y5, y6, y7, y8, y9, y10, y11⟩ := (HY.out.below Hb6.out (by have := Hs0.out; omega)).ddl; have HS1 := Lib.hid hs1; have HN6 := Lib.hid hn1; clear hs1 hn1)
    | (go_at_call 12; refine (HN2.out _ (HAx.out _ (bthen Hb6.out (by go_grown)))).mono ?_; rintro e w7 ⟨A2, c2, l2, rfl, hl2, hn2, hs2, hb⟩; have Hd7 : Hid (Below w6.heap.size w6 w7) := bthen (by go_grown) hb; have Hb7 := Lib.hid (bthen Hb6.out Hd7.out); clear hb; clear x0 x1 x2 x3 x4 x5 x6 x7 x8 x9 x10 x11 y0 y1 y2 y3 y4 y5 y6 y7 y8 y9 y10 y11; obtain ⟨x0, x1, x2, x3, x4, x5, x6, x7, x8, x9, x10, x11⟩ := (HX.out.below Hb7.out (by have := Hs0.out; omega)).ddl; obtain ⟨y0, y1, y2, y3, y4, y5, y6, y7, y8, y9, y10, y11⟩ := (HY.out.below Hb7.out (by have := Hs0.out; omega)).ddl; obtain rfl := HN6.out.unique hn2; have HS2 := Lib.hid hs2; clear hs2 hn2; have HS1b := Lib.hid (HS1.out.to Hd7.out))
    | (go_at_call 10; refine (same4_any A1 A2 c1 c2 l1 _ (HS1b.out.to (by go_grown)) (HS2.out.to (by go_grown)) (by omega)).mono ?_; rintro e w8 ⟨rfl, hb⟩; have Hd8 : Hid (Below w7.heap.size w7 w8) := bthen (by go_grown) hb; have Hb8 := Lib.hid (bthen Hb7.out Hd8.out); clear hb; clear x0 x1 x2 x3 x4 x5 x6 x7 x8 x9 x10 x11 y0 y1 y2 y3 y4 y5 y6 y7 y8 y9 y10 y11; obtain ⟨x0, x1, x2, x3, x4, x5, x6, x7, x8, x9, x10, x11⟩ := (HX.out.below Hb8.out (by have := Hs0.out; omega)).ddl; obtain ⟨y0, y1, y2, y3, y4, y5, y6, y7, y8, y9, y10, y11⟩ := (HY.out.below Hb8.out (by have := Hs0.out; omega)).ddl)
    | (go_at_call 13; clear m1; refine (HS.out _ (HAx.out _ (bthen Hb8.out (by go_grown))) (HBx.out _ (bthen Hb8.out (by go_grown)))).mono ?_; rintro e w9 ⟨rfl, hb⟩; have Hd9 : Hid (Below w8.heap.size w8 w9) := bthen (by go_grown) hb; have Hb9 := Lib.hid (bthen Hb8.out Hd9.out); clear hb; clear x0 x1 x2 x3 x4 x5 x6 x7 x8 x9 x10 x11 y0 y1 y2 y3 y4 y5 y6 y7 y8 y9 y10 y11; obtain ⟨x0, x1, x2, x3, x4, x5, x6, x7, x8, x9, x10, x11⟩ := (HX.out.below Hb9.out (by have := Hs0.out; omega)).ddl; obtain ⟨y0, y1, y2, y3, y4, y5, y6, y7, y8, y9, y10, y11⟩ := (HY.out.below Hb9.out (by have := Hs0.out; omega)).ddl)
    | (go_at_call 14; refine (HSr.out _ (HAx.out _ (bthen Hb9.out (by go_grown))) (HBx.out _ (bthen Hb9.out (by go_grown)))).mono ?_; rintro e w10 ⟨rfl, hb⟩; have Hd10 : Hid (Below w9.heap.size w9 w10) := bthen (by go_grown) hb; have Hb10 := Lib.hid (bthen Hb9.out Hd10.out); clear hb; clear x0 x1 x2 x3 x4 x5 x6 x7 x8 x9 x10 x11 y0 y1 y2 y3 y4 y5 y6 y7 y8 y9 y10 y11; obtain ⟨x0, x1, x2, x3, x4, x5, x6, x7, x8, x9, x10, x11⟩ := (HX.out.below Hb10.out (by have := Hs0.out; omega)).ddl; obtain ⟨y0, y1, y2, y3, y4, y5, y6, y7, y8, y9, y10, y11⟩ := (HY.out.below Hb10.out (by have := Hs0.out; omega)).ddl)
    | (go_at_call 13; refine (HSa.out _ (HAx.out _ (bthen Hb10.out (by go_grown))) (HAx.out _ (bthen Hb10.out (by go_grown)))).mono ?_; rintro e w11 ⟨rfl, hb⟩; have Hd11 : Hid (Below w10.heap.size w10 w11) := bthen (by go_grown) hb; have Hb11 := Lib.hid (bthen Hb10.out Hd11.out); clear hb; clear x0 x1 x2 x3 x4 x5 x6 x7 x8 x9 x10 x11 y0 y1 y2 y3 y4 y5 y6 y7 y8 y9 y10 y11; obtain ⟨x0, x1, x2, x3, x4, x5, x6, x7, x8, x9, x10, x11⟩ := (HX.out.below Hb11.out (by have := Hs0.out; omega)).ddl; obtain ⟨y0, y1, y2, y3, y4, y5, y6, y7, y8, y9, y10, y11⟩ := (HY.out.below Hb11.out (by have := Hs0.out; omega)).ddl)
    | fail)
  all_goals
    go_wp2_with fail
    go_ret
    exact ⟨rfl, bthen HbW.out Hb11.out⟩
theorem walk (a b : Db) (w : World) (hin : InD w a) (hs : SmD a.p) (hin2 : InD w b) (hs2 : SmD b.p) (hL : laidMetH Tryz.prog Rows.ddlPlainRow.laid w) :
    Calls Tryz.prog 3 #[DV a, DV b] w fun e w' => e = .returned (.bool true) ∧ Below w.heap.size w w' :=
  walk_t a b w hin hs hin2 hs2 (utab_of (by kernel_rfl) (by repeat (first | exact List.Mem.head _ | apply List.Mem.tail)) (by repeat (first | exact List.Mem.head _ | apply List.Mem.tail)) hL)
theorem own : ownKnob Tryz.prog.godebug = none := by kernel_rfl
theorem laidOut : laidOutB Tryz.prog = true := by kernel_rfl
theorem door_met (os : Os) (args : Array Value) : laidMetH Tryz.prog Rows.ddlPlainRow.laid ((World.doorLaid Tryz.prog 19 os).forCall (fun _ _ => 0) ⟨#[], args, []⟩).memory :=
  laidMetH_of_parts3 (fuel := 8) (laidMet_of_run' 8 (by kernel_rfl) (by kernel_rfl)) (by kernel_rfl) (by kernel_rfl)
set_option maxRecDepth 100000 in
theorem lifted (os : Os) (started : os.Started) (H : Type) (enc : TypeId × Value → H) :
    ReturnsInHanded {} Tryz.checked os 3 .any (fun w args => (Rows.ddlPlainSpec.pre enc Tryz.prog Tryz.f3 [] false w args ∧ laidMetH Tryz.prog Rows.ddlPlainRow.laid w) ∧ sizedMet enc Tryz.prog Tryz.f3 (OpenSpec.ofChange Rows.ddlPlainSpec) false w args)
      (Rows.ddlPlainSpec.post enc Tryz.prog Tryz.f3 false true false false) := by
  refine returnsInHanded_of_change_and (C := Tryz.checked) (X := fun w _ => laidMetH Tryz.prog Rows.ddlPlainRow.laid w) (fun _ _ _ hh h => h.of_heap hh) own started (by kernel_rfl) Tryz.func3
    (ChangeSpec.witness_shaped (enc := enc) (C := Tryz.checked) (os := os) (X := fun w _ => laidMetH Tryz.prog Rows.ddlPlainRow.laid w) false (World.doorLaid Tryz.prog 19 os) #[.agg #[.int .i64 0, .string ByteArray.empty, .string ByteArray.empty, .string ByteArray.empty, .string ByteArray.empty, .int .i64 0, .int .i64 0, .bool false, .int .i64 0, .int .i64 0, .string ByteArray.empty, .slice none 0 0], .agg #[.int .i64 0, .string ByteArray.empty, .string ByteArray.empty, .string ByteArray.empty, .string ByteArray.empty, .int .i64 0, .int .i64 0, .bool false, .int .i64 0, .int .i64 0, .string ByteArray.empty, .slice none 0 0]] 8 rfl (World.shaped_of_RefB (by kernel_rfl) (by kernel_rfl)) (by kernel_rfl) (by kernel_rfl) (by kernel_rfl) (door_met os _)) ?_
  intro W base args ds gs before hval0 hW hcnd hz0 hL _
  have hval : ∀ (j : Nat) t v, Tryz.f3.params[j]? = some t → args[j]? = some v → Value.okWide Tryz.prog W .any base t v := hval0
  have hz1 := sized_each hz0
  have hW' := hW
  obtain ⟨p, q, hA0, hV, rfl, hfz, hnd⟩ := hW
  have hA : DataW.TrodAll enc Tryz.prog W 0 (fun _ => true) true Tryz.f3.params.toList args.toList ds p := hA0
  rw [Tryz.params3] at hA hval hz1
  obtain ⟨v0, vs0, d0, ds0, p0, q0, hargs, rfl, rfl, h0, r0⟩ := trodAll_cons hA
  obtain ⟨v1, vs1, d1, ds1, p1, q1, rfl, rfl, rfl, h1, r1⟩ := trodAll_cons r0
  obtain ⟨rfl, rfl, rfl⟩ := trodAll_nil r1
  obtain rfl : args = #[v0, v1] := by cases args; simp_all
  obtain ⟨rfl, rfl⟩ := trodVars_none hV
  have k0 := h0
  have lt0 : ∀ x ∈ p0, x.block < W.heap.size := by obtain ⟨m, hm⟩ := k0; exact DataW.trod_lt m _ _ _ hm
  obtain ⟨t0, rfl, w0, z0⟩ := openDDLW (hval 0 28 v0 rfl rfl) h0 (hz1 0 28 d0 rfl rfl)
  have k1 := h1
  have lt1 : ∀ x ∈ p1, x.block < W.heap.size := by obtain ⟨m, hm⟩ := k1; exact DataW.trod_lt m _ _ _ hm
  obtain ⟨t1, rfl, w1, z1⟩ := openDDLW (hval 1 28 v1 rfl rfl) h1 (hz1 1 28 d1 rfl rfl)
  clear hA0 hval0
  refine (walk t0 t1 W w0 z0 w1 z1 hL).mono fun e W' ⟨he, bel⟩ => ?_
  subst he
  exact ⟨_, rfl, _, _, _, [], _, [], hW', trodAll_mk1 (shut_bool Tryz.underlying4 _), (trodAll_cons_mk (Below.trod laidOut (by kernel_rfl) (of_decide_eq_true (by kernel_rfl)) k0 bel lt0) (trodAll_cons_mk (Below.trod laidOut (by kernel_rfl) (of_decide_eq_true (by kernel_rfl)) k1 bel lt1) trodAll_mk0)), rfl, bel.frame _, fun h => by cases h⟩

theorem over : Rows.DdlPlainSaid :=
  OpenClaim.holds_of_wide 3 Tryz.f3 rfl rfl rfl rfl rfl rfl rfl ⟨rfl, rfl, rfl, rfl, rfl⟩ rfl rfl rfl rfl rfl (by kernel_rfl) Tryz.func3 (by kernel_rfl)
    (of_decide_eq_true (by kernel_rfl)) (by unfold Func.isWrapper; first | (rw [if_pos (by decide +kernel)]; kernel_rfl) | (rw [if_neg (by decide +kernel)]; exact ⟨rfl, rfl⟩))
    (fun os started H enc _ => lifted os started H enc)

/-- the given statement: the card -/
theorem proved : Rows.DdlPlainCardSaid :=
  Claim7.holds_tied_plain_at .later [] [.data, .data] true (true, "3ed9fbc85af2108e49d0eebe6137ce6d3b01cba58b31598a00b40f8eb211d8b9") false
    over (fun _ h => by cases h) (by kernel_rfl) (fun _ h => by cases h) ddlPlain_row_tie rfl ⟨rfl, rfl⟩ (by kernel_rfl) rfl
    (fun f fn hf hfn => by
      obtain rfl : f = 3 := Option.some.inj ((show Tryz.prog.funcNamed "haulage/haulagelaw09.DdlPlain" = some 3 by kernel_rfl).symm.trans hf) |>.symm
      obtain rfl : fn = Tryz.f3 := (Option.some.inj (Tryz.func3.symm.trans hfn)).symm
      exact ⟨by kernel_rfl, fun j t ht => by
        rw [Tryz.params3] at ht
        have hm : t ∈ [28, 28] := by simpa using Array.mem_of_getElem? ht
        have hall : ([28, 28].all fun u => !Tryz.prog.wantsStandIn u) = true := by kernel_rfl
        exact (show Tryz.prog.wantsStandIn t = false by simpa using List.all_eq_true.1 hall t hm)⟩)
    (by kernel_rfl)
#print axioms proved
end Go.Proofs.YtlbdbaafmdikcaaGreatDoor.ddlPlain
