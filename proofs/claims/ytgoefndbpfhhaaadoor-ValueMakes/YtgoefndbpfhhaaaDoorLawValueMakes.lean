/-
  ValueMakes: for every value, every number and every string the law returns true: whether the value is valid, and which values are made of the number and of the string, or why not, is what the page says. No condition but that the two tables of package utf read as the program's text lays them (tied by the card).
-/
import Derived.Test.YtgoefndbpfhhaaaDoorValLivesC
import Derived.Test.YtgoefndbpfhhaaaDoorValOpen
import Derived.Test.YtgoefndbpfhhaaaDoorQuietB
import Derived.Test.YtgoefndbpfhhaaaDoorTie
import Derived.Test.YtgoefndbpfhhaaaDoorCards
import Derived.ProofKit
import Derived.OpenShut
import Derived.ShutString
import Derived.ChangeOld
import Derived.LaidMore
import Derived.SevenTiedAt
namespace Go.Proofs.YtgoefndbpfhhaaaDoor.valueMakes
open Go.ChangeShapes Go.WideShapes Go.ChangeAt Go.RowKit
open Go.ChangeMaps (open_string shut_string)

theorem bcell5 {W w1 : World} (hb : Below W.heap.size W w1) : (∀ b o, b < W.heap.size → w1.cell? ⟨b, o, none⟩ = W.cell? ⟨b, o, none⟩) :=
  fun b o h => hb.cell (p := ⟨b, o, none⟩) h
set_option maxRecDepth 100000 in
set_option maxHeartbeats 3200000 in
theorem walk_fits_long (k n m : Int) (s S : ByteArray) (r : Bool) (w : World) (HT : Hid (UTab w)) (hd : decide (300 < (s.size : Int)) = false) (hd2 : decide (300 < (S.size : Int)) = false) (hd3 : decide (120 < (S.size : Int)) = true)
    (HI : Hid (∀ w, Calls Tryd.prog 10 #[.int .i64 m] w fun e w' => e = .returned (.tuple #[.agg #[.int .i64 1, .int .i64 m, .string ⟨#[]⟩], .int .i64 0]) ∧ Below w.heap.size w w'))
    (HX : Hid (∀ w, UTab w → Calls Tryd.prog 11 #[.string S] w fun e w' => e = .returned (.tuple #[.agg #[.int .i64 0, .int .i64 0, .string ⟨#[]⟩], .int .i64 3]) ∧ Below w.heap.size w w'))
    (HY : Hid (∀ w, Calls Tryd.prog 12 #[.string S] w fun e w' => e = .returned (.tuple #[.agg #[.int .i64 0, .int .i64 0, .string ⟨#[]⟩], .int .i64 3]) ∧ Below w.heap.size w w'))
    (HR1 : Hid (∀ w, UTab w → Calls Tryd.prog 13 #[VV k n s] w fun e w' => e = .returned (.bool r) ∧ Below w.heap.size w w'))
    (HR2 : Hid (∀ w, Calls Tryd.prog 14 #[VV k n s] w fun e w' => e = .returned (.bool r) ∧ Below w.heap.size w w'))
    (HLo : Hid (∀ w, Calls Tryd.prog 15 #[.int .i64 m] w fun e w' => e = .returned (VV 2 m ⟨#[]⟩) ∧ Below w.heap.size w w'))
    (HFi : Hid (∀ w, Calls Tryd.prog 16 #[.int .i64 m, .int .i64 32] w fun e w' => e = .returned (.bool true) ∧ Below w.heap.size w w'))
    :
    Calls Tryd.prog 3 #[VV k n s, .int .i64 m, .string S] w fun e w' => e = .returned (.bool true) ∧ Below w.heap.size w w' := by
  go_enter Tryd.func3, Tryd.ntmps3
  go_wp2_with fail
  refine (lives5_any _ (HT.out.alloc _)).mono ?_
  rintro e w1 ⟨rfl, hb1⟩
  have HV := Lib.hid ((Blk3.new w _ _ _ _).below hb1 (by simp))
  have hlt := new_lt hb1
  have hb' := below_new hb1
  clear hb1
  obtain ⟨c0, c1, c2, _, _, _⟩ := HV.out
  go_wp2_with fail
  clear c0 c1 c2
  refine (HI.out _).mono ?_
  rintro e w2 ⟨rfl, hb2⟩
  have HV2 := Lib.hid (HV.out.below hb2 hlt)
  have hlt2 : w.heap.size < w2.heap.size := by have := hb2.size; omega
  have hb2' := hb'.trans (hb2.mono hb'.size)
  clear HV hb' hb2
  go_wp2_with fail
  refine (HX.out _ ((HT.out.below hb2' (Nat.le_refl _)).alloc _)).mono ?_
  rintro e w3 ⟨rfl, hb3⟩
  have HV3 := Lib.hid ((HV2.out.alloc hlt2 _).below hb3 (by simp; omega))
  have HA3 := Lib.hid ((Blk3.new w2 _ _ _ _).below hb3 (by simp))
  have hlt3 := new_lt hb3
  have hb3' := hb2'.trans ((below_new hb3).mono hb2'.size)
  clear HV2 hb2' hb3
  go_wp2_with fail
  refine (HY.out _).mono ?_
  rintro e w4 ⟨rfl, hb4⟩
  have HV4 := Lib.hid ((HV3.out.alloc (by omega) _).below hb4 (by simp; omega))
  have HA4 := Lib.hid ((HA3.out.alloc hlt3 _).below hb4 (by simp; omega))
  have HB4 := Lib.hid ((Blk3.new w3 _ _ _ _).below hb4 (by simp))
  have hlt4 := new_lt hb4
  have hb4' := hb3'.trans ((below_new hb4).mono hb3'.size)
  clear HV3 HA3 hb3' hb4
  have HT4 := Lib.hid (HT.out.below hb4' (Nat.le_refl _))
  go_wp2_with fail
  have HV5 := Lib.hid (HV4.out.alloc (by omega) (.cells #[.int .i64 0, .int .i64 0, .string ⟨#[]⟩] 23))
  have HA5 := Lib.hid (HA4.out.alloc (by omega) (.cells #[.int .i64 0, .int .i64 0, .string ⟨#[]⟩] 23))
  have HB5 := Lib.hid (HB4.out.alloc (by omega) (.cells #[.int .i64 0, .int .i64 0, .string ⟨#[]⟩] 23))
  have HC5 := Lib.hid (Blk3.new w4 (.int .i64 0) (.int .i64 0) (.string ⟨#[]⟩) 23)
  have HT5 := Lib.hid (HT4.out.alloc (.cells #[.int .i64 0, .int .i64 0, .string ⟨#[]⟩] 23))
  have hb5 : Below w.heap.size w (w4.alloc (.cells #[.int .i64 0, .int .i64 0, .string ⟨#[]⟩] 23)) := hb4'.alloc hb4'.size _
  have hs5 : (w4.alloc (.cells #[.int .i64 0, .int .i64 0, .string ⟨#[]⟩] 23)).heap.size = w4.heap.size + 1 := by simp
  clear HV4 HA4 HB4 HT4 hb4'
  generalize (w4.alloc (.cells #[.int .i64 0, .int .i64 0, .string ⟨#[]⟩] 23)) = W at HV5 HA5 HB5 HC5 HT5 hb5 hs5 ⊢
  have hne : Nonempty (BelowBy W.heap.size W) := ⟨⟨W, Below.refl _ _⟩⟩
  have HTp : Hid (∀ p : BelowBy W.heap.size W, UTab p.x) := fun p => HT5.out.below p.h (Nat.le_refl _)
  have HVp : Hid (∀ p : BelowBy W.heap.size W, Blk3 p.x w.heap.size (.int .i64 k) (.int .i64 n) (.string s)) := fun p => HV5.out.below p.h (by omega)
  have HAp : Hid (∀ p : BelowBy W.heap.size W, Blk3 p.x w2.heap.size (.int .i64 1) (.int .i64 m) (.string ⟨#[]⟩)) := fun p => HA5.out.below p.h (by omega)
  have HBp : Hid (∀ p : BelowBy W.heap.size W, Blk3 p.x w3.heap.size (.int .i64 0) (.int .i64 0) (.string ⟨#[]⟩)) := fun p => HB5.out.below p.h (by omega)
  have HCp : Hid (∀ p : BelowBy W.heap.size W, Blk3 p.x w4.heap.size (.int .i64 0) (.int .i64 0) (.string ⟨#[]⟩)) := fun p => HC5.out.below p.h (by omega)
  clear HV5 HA5 HB5 HC5 HT5
  have C0 : ∀ p : BelowBy W.heap.size W, p.x.cell? ⟨w.heap.size, 0, none⟩ = some (.int .i64 k) := fun p => (HVp.out p).1
  have C1 : ∀ p : BelowBy W.heap.size W, p.x.cell? ⟨w.heap.size, 1, none⟩ = some (.int .i64 n) := fun p => (HVp.out p).2.1
  have C2 : ∀ p : BelowBy W.heap.size W, p.x.cell? ⟨w.heap.size, 2, none⟩ = some (.string s) := fun p => (HVp.out p).2.2.1
  refine wp_region_below W.heap.size (by kernel_rfl) (by kernel_rfl) ?_
  repeat (
    refine wpQuiet_step (fun K hK => ?_)
    go_simp
    first | (refine hK _ ?_) | (refine ⟨_, fun _ => rfl, hK _ ?_⟩)
    clear hK K)
  refine wpQuiet_step (fun K hK => ?_)
  go_simp
  apply Exists.intro
  refine ⟨fun p => ?_, hK _ ?_⟩
  exact (HR1.out _ (HTp.out p)).mono fun e w5 ⟨he, hb⟩ => ⟨he, p.step (Nat.le_refl _) hb⟩
  clear hK K
  repeat (
    refine wpQuiet_step (fun K hK => ?_)
    go_simp
    first | (refine hK _ ?_) | (refine ⟨_, fun _ => rfl, hK _ ?_⟩)
    clear hK K)
  refine wpQuiet_step (fun K hK => ?_)
  go_simp
  apply Exists.intro
  refine ⟨fun p => ?_, hK _ ?_⟩
  exact (HR2.out _).mono fun e w5 ⟨he, hb⟩ => ⟨he, p.step (Nat.le_refl _) hb⟩
  clear hK K
  repeat (
    refine wpQuiet_step (fun K hK => ?_)
    go_simp
    first | (refine hK _ ?_) | (refine ⟨_, fun _ => rfl, hK _ ?_⟩)
    clear hK K)
  refine wpQuiet_step (fun K hK => ?_)
  go_simp
  apply Exists.intro
  refine ⟨fun p => ?_, hK _ ?_⟩
  exact (HLo.out _).mono fun e w5 ⟨he, hb⟩ => ⟨he, p.step (Nat.le_refl _) hb⟩
  clear hK K
  repeat (
    refine wpQuiet_step (fun K hK => ?_)
    go_simp
    first | (refine hK _ ?_) | (refine ⟨_, fun _ => rfl, hK _ ?_⟩)
    clear hK K)
  refine wpQuiet_step (fun K hK => ?_)
  go_simp
  apply Exists.intro
  refine ⟨fun p => ?_, hK _ ?_⟩
  exact (HFi.out _).mono fun e w5 ⟨he, hb⟩ => ⟨he, p.step (Nat.le_refl _) hb⟩
  clear hK K
  repeat (
    refine wpQuiet_step (fun K hK => ?_)
    go_simp
    first | (refine hK _ ?_) | (refine ⟨_, fun _ => rfl, hK _ ?_⟩)
    clear hK K)
  refine wpQuiet_nil ?_
  rintro _ ⟨p, rfl⟩
  clear C0 C1 C2
  obtain ⟨a0, a1, a2, _, _, _⟩ := HAp.out p
  obtain ⟨b0, b1, b2, _, _, _⟩ := HBp.out p
  obtain ⟨d0, d1, d2, _, _, _⟩ := HCp.out p
  have hbp := hb5.trans (p.h.mono hb5.size)
  generalize p.x = wp at a0 a1 a2 b0 b1 b2 d0 d1 d2 hbp ⊢
  go_wp2_with fail
  go_ret
  exact ⟨rfl, hbp⟩
set_option maxRecDepth 100000 in
set_option maxHeartbeats 3200000 in
theorem walk_fits_ok (k n m : Int) (s S : ByteArray) (r : Bool) (w : World) (HT : Hid (UTab w)) (hd : decide (300 < (s.size : Int)) = false) (hd2 : decide (300 < (S.size : Int)) = false) (hd3 : decide (120 < (S.size : Int)) = false)
    (HI : Hid (∀ w, Calls Tryd.prog 10 #[.int .i64 m] w fun e w' => e = .returned (.tuple #[.agg #[.int .i64 1, .int .i64 m, .string ⟨#[]⟩], .int .i64 0]) ∧ Below w.heap.size w w'))
    (HX : Hid (∀ w, UTab w → Calls Tryd.prog 11 #[.string S] w fun e w' => e = .returned (.tuple #[.agg #[.int .i64 3, .int .i64 0, .string S], .int .i64 0]) ∧ Below w.heap.size w w'))
    (HY : Hid (∀ w, Calls Tryd.prog 12 #[.string S] w fun e w' => e = .returned (.tuple #[.agg #[.int .i64 4, .int .i64 0, .string S], .int .i64 0]) ∧ Below w.heap.size w w'))
    (HR1 : Hid (∀ w, UTab w → Calls Tryd.prog 13 #[VV k n s] w fun e w' => e = .returned (.bool r) ∧ Below w.heap.size w w'))
    (HR2 : Hid (∀ w, Calls Tryd.prog 14 #[VV k n s] w fun e w' => e = .returned (.bool r) ∧ Below w.heap.size w w'))
    (HLo : Hid (∀ w, Calls Tryd.prog 15 #[.int .i64 m] w fun e w' => e = .returned (VV 2 m ⟨#[]⟩) ∧ Below w.heap.size w w'))
    (HFi : Hid (∀ w, Calls Tryd.prog 16 #[.int .i64 m, .int .i64 32] w fun e w' => e = .returned (.bool true) ∧ Below w.heap.size w w'))
    (HU : Hid (∀ w, Calls Tryd.prog 17 #[.string S] w fun e w' => e = .returned (.bool true) ∧ Below w.heap.size w w')):
    Calls Tryd.prog 3 #[VV k n s, .int .i64 m, .string S] w fun e w' => e = .returned (.bool true) ∧ Below w.heap.size w w' := by
  go_enter Tryd.func3, Tryd.ntmps3
  go_wp2_with fail
  refine (lives5_any _ (HT.out.alloc _)).mono ?_
  rintro e w1 ⟨rfl, hb1⟩
  have HV := Lib.hid ((Blk3.new w _ _ _ _).below hb1 (by simp))
  have hlt := new_lt hb1
  have hb' := below_new hb1
  clear hb1
  obtain ⟨c0, c1, c2, _, _, _⟩ := HV.out
  go_wp2_with fail
  clear c0 c1 c2
  refine (HI.out _).mono ?_
  rintro e w2 ⟨rfl, hb2⟩
  have HV2 := Lib.hid (HV.out.below hb2 hlt)
  have hlt2 : w.heap.size < w2.heap.size := by have := hb2.size; omega
  have hb2' := hb'.trans (hb2.mono hb'.size)
  clear HV hb' hb2
  go_wp2_with fail
  refine (HX.out _ ((HT.out.below hb2' (Nat.le_refl _)).alloc _)).mono ?_
  rintro e w3 ⟨rfl, hb3⟩
  have HV3 := Lib.hid ((HV2.out.alloc hlt2 _).below hb3 (by simp; omega))
  have HA3 := Lib.hid ((Blk3.new w2 _ _ _ _).below hb3 (by simp))
  have hlt3 := new_lt hb3
  have hb3' := hb2'.trans ((below_new hb3).mono hb2'.size)
  clear HV2 hb2' hb3
  go_wp2_with fail
  refine (HY.out _).mono ?_
  rintro e w4 ⟨rfl, hb4⟩
  have HV4 := Lib.hid ((HV3.out.alloc (by omega) _).below hb4 (by simp; omega))
  have HA4 := Lib.hid ((HA3.out.alloc hlt3 _).below hb4 (by simp; omega))
  have HB4 := Lib.hid ((Blk3.new w3 _ _ _ _).below hb4 (by simp))
  have hlt4 := new_lt hb4
  have hb4' := hb3'.trans ((below_new hb4).mono hb3'.size)
  clear HV3 HA3 hb3' hb4
  have HT4 := Lib.hid (HT.out.below hb4' (Nat.le_refl _))
  go_wp2_with fail
  have HV5 := Lib.hid (HV4.out.alloc (by omega) (.cells #[.int .i64 4, .int .i64 0, .string S] 23))
  have HA5 := Lib.hid (HA4.out.alloc (by omega) (.cells #[.int .i64 4, .int .i64 0, .string S] 23))
  have HB5 := Lib.hid (HB4.out.alloc (by omega) (.cells #[.int .i64 4, .int .i64 0, .string S] 23))
  have HC5 := Lib.hid (Blk3.new w4 (.int .i64 4) (.int .i64 0) (.string S) 23)
  have HT5 := Lib.hid (HT4.out.alloc (.cells #[.int .i64 4, .int .i64 0, .string S] 23))
  have hb5 : Below w.heap.size w (w4.alloc (.cells #[.int .i64 4, .int .i64 0, .string S] 23)) := hb4'.alloc hb4'.size _
  have hs5 : (w4.alloc (.cells #[.int .i64 4, .int .i64 0, .string S] 23)).heap.size = w4.heap.size + 1 := by simp
  clear HV4 HA4 HB4 HT4 hb4'
  generalize (w4.alloc (.cells #[.int .i64 4, .int .i64 0, .string S] 23)) = W at HV5 HA5 HB5 HC5 HT5 hb5 hs5 ⊢
  have hne : Nonempty (BelowBy W.heap.size W) := ⟨⟨W, Below.refl _ _⟩⟩
  have HTp : Hid (∀ p : BelowBy W.heap.size W, UTab p.x) := fun p => HT5.out.below p.h (Nat.le_refl _)
  have HVp : Hid (∀ p : BelowBy W.heap.size W, Blk3 p.x w.heap.size (.int .i64 k) (.int .i64 n) (.string s)) := fun p => HV5.out.below p.h (by omega)
  have HAp : Hid (∀ p : BelowBy W.heap.size W, Blk3 p.x w2.heap.size (.int .i64 1) (.int .i64 m) (.string ⟨#[]⟩)) := fun p => HA5.out.below p.h (by omega)
  have HBp : Hid (∀ p : BelowBy W.heap.size W, Blk3 p.x w3.heap.size (.int .i64 3) (.int .i64 0) (.string S)) := fun p => HB5.out.below p.h (by omega)
  have HCp : Hid (∀ p : BelowBy W.heap.size W, Blk3 p.x w4.heap.size (.int .i64 4) (.int .i64 0) (.string S)) := fun p => HC5.out.below p.h (by omega)
  clear HV5 HA5 HB5 HC5 HT5
  have C0 : ∀ p : BelowBy W.heap.size W, p.x.cell? ⟨w.heap.size, 0, none⟩ = some (.int .i64 k) := fun p => (HVp.out p).1
  have C1 : ∀ p : BelowBy W.heap.size W, p.x.cell? ⟨w.heap.size, 1, none⟩ = some (.int .i64 n) := fun p => (HVp.out p).2.1
  have C2 : ∀ p : BelowBy W.heap.size W, p.x.cell? ⟨w.heap.size, 2, none⟩ = some (.string s) := fun p => (HVp.out p).2.2.1
  refine wp_region_below W.heap.size (by kernel_rfl) (by kernel_rfl) ?_
  repeat (
    refine wpQuiet_step (fun K hK => ?_)
    go_simp
    first | (refine hK _ ?_) | (refine ⟨_, fun _ => rfl, hK _ ?_⟩)
    clear hK K)
  refine wpQuiet_step (fun K hK => ?_)
  go_simp
  apply Exists.intro
  refine ⟨fun p => ?_, hK _ ?_⟩
  exact (HR1.out _ (HTp.out p)).mono fun e w5 ⟨he, hb⟩ => ⟨he, p.step (Nat.le_refl _) hb⟩
  clear hK K
  repeat (
    refine wpQuiet_step (fun K hK => ?_)
    go_simp
    first | (refine hK _ ?_) | (refine ⟨_, fun _ => rfl, hK _ ?_⟩)
    clear hK K)
  refine wpQuiet_step (fun K hK => ?_)
  go_simp
  apply Exists.intro
  refine ⟨fun p => ?_, hK _ ?_⟩
  exact (HR2.out _).mono fun e w5 ⟨he, hb⟩ => ⟨he, p.step (Nat.le_refl _) hb⟩
  clear hK K
  repeat (
    refine wpQuiet_step (fun K hK => ?_)
    go_simp
    first | (refine hK _ ?_) | (refine ⟨_, fun _ => rfl, hK _ ?_⟩)
    clear hK K)
  refine wpQuiet_step (fun K hK => ?_)
  go_simp
  apply Exists.intro
  refine ⟨fun p => ?_, hK _ ?_⟩
  exact (HLo.out _).mono fun e w5 ⟨he, hb⟩ => ⟨he, p.step (Nat.le_refl _) hb⟩
  clear hK K
  repeat (
    refine wpQuiet_step (fun K hK => ?_)
    go_simp
    first | (refine hK _ ?_) | (refine ⟨_, fun _ => rfl, hK _ ?_⟩)
    clear hK K)
  refine wpQuiet_step (fun K hK => ?_)
  go_simp
  apply Exists.intro
  refine ⟨fun p => ?_, hK _ ?_⟩
  exact (HFi.out _).mono fun e w5 ⟨he, hb⟩ => ⟨he, p.step (Nat.le_refl _) hb⟩
  clear hK K
  repeat (
    refine wpQuiet_step (fun K hK => ?_)
    go_simp
    first | (refine hK _ ?_) | (refine ⟨_, fun _ => rfl, hK _ ?_⟩)
    clear hK K)
  refine wpQuiet_nil ?_
  rintro _ ⟨p, rfl⟩
  clear C0 C1 C2
  obtain ⟨a0, a1, a2, _, _, _⟩ := HAp.out p
  obtain ⟨b0, b1, b2, _, _, _⟩ := HBp.out p
  obtain ⟨d0, d1, d2, _, _, _⟩ := HCp.out p
  have hbp := hb5.trans (p.h.mono hb5.size)
  have hlA0 : w2.heap.size < p.x.heap.size := by have := p.h.size; omega
  have hlB0 : w3.heap.size < p.x.heap.size := by have := p.h.size; omega
  generalize p.x = wp at a0 a1 a2 b0 b1 b2 d0 d1 d2 hbp hlA0 hlB0 ⊢
  go_wp2_with fail
  refine (HU.out _).mono ?_
  rintro e w6 ⟨rfl, hb6⟩
  have bc := bcell5 hb6
  have hlA : w2.heap.size < wp.heap.size := hlA0
  have hlB : w3.heap.size < wp.heap.size := hlB0
  go_wp2_with fail
  go_ret
  exact ⟨rfl, hbp.trans (hb6.mono hbp.size)⟩
set_option maxRecDepth 100000 in
set_option maxHeartbeats 3200000 in
theorem walk_fits_bad (k n m : Int) (s S : ByteArray) (r : Bool) (w : World) (HT : Hid (UTab w)) (hd : decide (300 < (s.size : Int)) = false) (hd2 : decide (300 < (S.size : Int)) = false) (hd3 : decide (120 < (S.size : Int)) = false)
    (HI : Hid (∀ w, Calls Tryd.prog 10 #[.int .i64 m] w fun e w' => e = .returned (.tuple #[.agg #[.int .i64 1, .int .i64 m, .string ⟨#[]⟩], .int .i64 0]) ∧ Below w.heap.size w w'))
    (HX : Hid (∀ w, UTab w → Calls Tryd.prog 11 #[.string S] w fun e w' => e = .returned (.tuple #[.agg #[.int .i64 0, .int .i64 0, .string ⟨#[]⟩], .int .i64 5]) ∧ Below w.heap.size w w'))
    (HY : Hid (∀ w, Calls Tryd.prog 12 #[.string S] w fun e w' => e = .returned (.tuple #[.agg #[.int .i64 4, .int .i64 0, .string S], .int .i64 0]) ∧ Below w.heap.size w w'))
    (HR1 : Hid (∀ w, UTab w → Calls Tryd.prog 13 #[VV k n s] w fun e w' => e = .returned (.bool r) ∧ Below w.heap.size w w'))
    (HR2 : Hid (∀ w, Calls Tryd.prog 14 #[VV k n s] w fun e w' => e = .returned (.bool r) ∧ Below w.heap.size w w'))
    (HLo : Hid (∀ w, Calls Tryd.prog 15 #[.int .i64 m] w fun e w' => e = .returned (VV 2 m ⟨#[]⟩) ∧ Below w.heap.size w w'))
    (HFi : Hid (∀ w, Calls Tryd.prog 16 #[.int .i64 m, .int .i64 32] w fun e w' => e = .returned (.bool true) ∧ Below w.heap.size w w'))
    (HU : Hid (∀ w, Calls Tryd.prog 17 #[.string S] w fun e w' => e = .returned (.bool false) ∧ Below w.heap.size w w')):
    Calls Tryd.prog 3 #[VV k n s, .int .i64 m, .string S] w fun e w' => e = .returned (.bool true) ∧ Below w.heap.size w w' := by
  go_enter Tryd.func3, Tryd.ntmps3
  go_wp2_with fail
  refine (lives5_any _ (HT.out.alloc _)).mono ?_
  rintro e w1 ⟨rfl, hb1⟩
  have HV := Lib.hid ((Blk3.new w _ _ _ _).below hb1 (by simp))
  have hlt := new_lt hb1
  have hb' := below_new hb1
  clear hb1
  obtain ⟨c0, c1, c2, _, _, _⟩ := HV.out
  go_wp2_with fail
  clear c0 c1 c2
  refine (HI.out _).mono ?_
  rintro e w2 ⟨rfl, hb2⟩
  have HV2 := Lib.hid (HV.out.below hb2 hlt)
  have hlt2 : w.heap.size < w2.heap.size := by have := hb2.size; omega
  have hb2' := hb'.trans (hb2.mono hb'.size)
  clear HV hb' hb2
  go_wp2_with fail
  refine (HX.out _ ((HT.out.below hb2' (Nat.le_refl _)).alloc _)).mono ?_
  rintro e w3 ⟨rfl, hb3⟩
  have HV3 := Lib.hid ((HV2.out.alloc hlt2 _).below hb3 (by simp; omega))
  have HA3 := Lib.hid ((Blk3.new w2 _ _ _ _).below hb3 (by simp))
  have hlt3 := new_lt hb3
  have hb3' := hb2'.trans ((below_new hb3).mono hb2'.size)
  clear HV2 hb2' hb3
  go_wp2_with fail
  refine (HY.out _).mono ?_
  rintro e w4 ⟨rfl, hb4⟩
  have HV4 := Lib.hid ((HV3.out.alloc (by omega) _).below hb4 (by simp; omega))
  have HA4 := Lib.hid ((HA3.out.alloc hlt3 _).below hb4 (by simp; omega))
  have HB4 := Lib.hid ((Blk3.new w3 _ _ _ _).below hb4 (by simp))
  have hlt4 := new_lt hb4
  have hb4' := hb3'.trans ((below_new hb4).mono hb3'.size)
  clear HV3 HA3 hb3' hb4
  have HT4 := Lib.hid (HT.out.below hb4' (Nat.le_refl _))
  go_wp2_with fail
  have HV5 := Lib.hid (HV4.out.alloc (by omega) (.cells #[.int .i64 4, .int .i64 0, .string S] 23))
  have HA5 := Lib.hid (HA4.out.alloc (by omega) (.cells #[.int .i64 4, .int .i64 0, .string S] 23))
  have HB5 := Lib.hid (HB4.out.alloc (by omega) (.cells #[.int .i64 4, .int .i64 0, .string S] 23))
  have HC5 := Lib.hid (Blk3.new w4 (.int .i64 4) (.int .i64 0) (.string S) 23)
  have HT5 := Lib.hid (HT4.out.alloc (.cells #[.int .i64 4, .int .i64 0, .string S] 23))
  have hb5 : Below w.heap.size w (w4.alloc (.cells #[.int .i64 4, .int .i64 0, .string S] 23)) := hb4'.alloc hb4'.size _
  have hs5 : (w4.alloc (.cells #[.int .i64 4, .int .i64 0, .string S] 23)).heap.size = w4.heap.size + 1 := by simp
  clear HV4 HA4 HB4 HT4 hb4'
  generalize (w4.alloc (.cells #[.int .i64 4, .int .i64 0, .string S] 23)) = W at HV5 HA5 HB5 HC5 HT5 hb5 hs5 ⊢
  have hne : Nonempty (BelowBy W.heap.size W) := ⟨⟨W, Below.refl _ _⟩⟩
  have HTp : Hid (∀ p : BelowBy W.heap.size W, UTab p.x) := fun p => HT5.out.below p.h (Nat.le_refl _)
  have HVp : Hid (∀ p : BelowBy W.heap.size W, Blk3 p.x w.heap.size (.int .i64 k) (.int .i64 n) (.string s)) := fun p => HV5.out.below p.h (by omega)
  have HAp : Hid (∀ p : BelowBy W.heap.size W, Blk3 p.x w2.heap.size (.int .i64 1) (.int .i64 m) (.string ⟨#[]⟩)) := fun p => HA5.out.below p.h (by omega)
  have HBp : Hid (∀ p : BelowBy W.heap.size W, Blk3 p.x w3.heap.size (.int .i64 0) (.int .i64 0) (.string ⟨#[]⟩)) := fun p => HB5.out.below p.h (by omega)
  have HCp : Hid (∀ p : BelowBy W.heap.size W, Blk3 p.x w4.heap.size (.int .i64 4) (.int .i64 0) (.string S)) := fun p => HC5.out.below p.h (by omega)
  clear HV5 HA5 HB5 HC5 HT5
  have C0 : ∀ p : BelowBy W.heap.size W, p.x.cell? ⟨w.heap.size, 0, none⟩ = some (.int .i64 k) := fun p => (HVp.out p).1
  have C1 : ∀ p : BelowBy W.heap.size W, p.x.cell? ⟨w.heap.size, 1, none⟩ = some (.int .i64 n) := fun p => (HVp.out p).2.1
  have C2 : ∀ p : BelowBy W.heap.size W, p.x.cell? ⟨w.heap.size, 2, none⟩ = some (.string s) := fun p => (HVp.out p).2.2.1
  refine wp_region_below W.heap.size (by kernel_rfl) (by kernel_rfl) ?_
  repeat (
    refine wpQuiet_step (fun K hK => ?_)
    go_simp
    first | (refine hK _ ?_) | (refine ⟨_, fun _ => rfl, hK _ ?_⟩)
    clear hK K)
  refine wpQuiet_step (fun K hK => ?_)
  go_simp
  apply Exists.intro
  refine ⟨fun p => ?_, hK _ ?_⟩
  exact (HR1.out _ (HTp.out p)).mono fun e w5 ⟨he, hb⟩ => ⟨he, p.step (Nat.le_refl _) hb⟩
  clear hK K
  repeat (
    refine wpQuiet_step (fun K hK => ?_)
    go_simp
    first | (refine hK _ ?_) | (refine ⟨_, fun _ => rfl, hK _ ?_⟩)
    clear hK K)
  refine wpQuiet_step (fun K hK => ?_)
  go_simp
  apply Exists.intro
  refine ⟨fun p => ?_, hK _ ?_⟩
  exact (HR2.out _).mono fun e w5 ⟨he, hb⟩ => ⟨he, p.step (Nat.le_refl _) hb⟩
  clear hK K
  repeat (
    refine wpQuiet_step (fun K hK => ?_)
    go_simp
    first | (refine hK _ ?_) | (refine ⟨_, fun _ => rfl, hK _ ?_⟩)
    clear hK K)
  refine wpQuiet_step (fun K hK => ?_)
  go_simp
  apply Exists.intro
  refine ⟨fun p => ?_, hK _ ?_⟩
  exact (HLo.out _).mono fun e w5 ⟨he, hb⟩ => ⟨he, p.step (Nat.le_refl _) hb⟩
  clear hK K
  repeat (
    refine wpQuiet_step (fun K hK => ?_)
    go_simp
    first | (refine hK _ ?_) | (refine ⟨_, fun _ => rfl, hK _ ?_⟩)
    clear hK K)
  refine wpQuiet_step (fun K hK => ?_)
  go_simp
  apply Exists.intro
  refine ⟨fun p => ?_, hK _ ?_⟩
  exact (HFi.out _).mono fun e w5 ⟨he, hb⟩ => ⟨he, p.step (Nat.le_refl _) hb⟩
  clear hK K
  repeat (
    refine wpQuiet_step (fun K hK => ?_)
    go_simp
    first | (refine hK _ ?_) | (refine ⟨_, fun _ => rfl, hK _ ?_⟩)
    clear hK K)
  refine wpQuiet_nil ?_
  rintro _ ⟨p, rfl⟩
  clear C0 C1 C2
  obtain ⟨a0, a1, a2, _, _, _⟩ := HAp.out p
  obtain ⟨b0, b1, b2, _, _, _⟩ := HBp.out p
  obtain ⟨d0, d1, d2, _, _, _⟩ := HCp.out p
  have hbp := hb5.trans (p.h.mono hb5.size)
  have hlA0 : w2.heap.size < p.x.heap.size := by have := p.h.size; omega
  have hlB0 : w3.heap.size < p.x.heap.size := by have := p.h.size; omega
  generalize p.x = wp at a0 a1 a2 b0 b1 b2 d0 d1 d2 hbp hlA0 hlB0 ⊢
  go_wp2_with fail
  refine (HU.out _).mono ?_
  rintro e w6 ⟨rfl, hb6⟩
  have bc := bcell5 hb6
  have hlA : w2.heap.size < wp.heap.size := hlA0
  have hlB : w3.heap.size < wp.heap.size := hlB0
  go_wp2_with fail
  go_ret
  exact ⟨rfl, hbp.trans (hb6.mono hbp.size)⟩
set_option maxRecDepth 100000 in
set_option maxHeartbeats 3200000 in
theorem walk_wide_long (k n m : Int) (s S : ByteArray) (r : Bool) (w : World) (HT : Hid (UTab w)) (hd : decide (300 < (s.size : Int)) = false) (hd2 : decide (300 < (S.size : Int)) = false) (hd3 : decide (120 < (S.size : Int)) = true)
    (HI : Hid (∀ w, Calls Tryd.prog 10 #[.int .i64 m] w fun e w' => e = .returned (.tuple #[.agg #[.int .i64 0, .int .i64 0, .string ⟨#[]⟩], .int .i64 10]) ∧ Below w.heap.size w w'))
    (HX : Hid (∀ w, UTab w → Calls Tryd.prog 11 #[.string S] w fun e w' => e = .returned (.tuple #[.agg #[.int .i64 0, .int .i64 0, .string ⟨#[]⟩], .int .i64 3]) ∧ Below w.heap.size w w'))
    (HY : Hid (∀ w, Calls Tryd.prog 12 #[.string S] w fun e w' => e = .returned (.tuple #[.agg #[.int .i64 0, .int .i64 0, .string ⟨#[]⟩], .int .i64 3]) ∧ Below w.heap.size w w'))
    (HR1 : Hid (∀ w, UTab w → Calls Tryd.prog 13 #[VV k n s] w fun e w' => e = .returned (.bool r) ∧ Below w.heap.size w w'))
    (HR2 : Hid (∀ w, Calls Tryd.prog 14 #[VV k n s] w fun e w' => e = .returned (.bool r) ∧ Below w.heap.size w w'))
    (HLo : Hid (∀ w, Calls Tryd.prog 15 #[.int .i64 m] w fun e w' => e = .returned (VV 2 m ⟨#[]⟩) ∧ Below w.heap.size w w'))
    (HFi : Hid (∀ w, Calls Tryd.prog 16 #[.int .i64 m, .int .i64 32] w fun e w' => e = .returned (.bool false) ∧ Below w.heap.size w w'))
    :
    Calls Tryd.prog 3 #[VV k n s, .int .i64 m, .string S] w fun e w' => e = .returned (.bool true) ∧ Below w.heap.size w w' := by
  go_enter Tryd.func3, Tryd.ntmps3
  go_wp2_with fail
  refine (lives5_any _ (HT.out.alloc _)).mono ?_
  rintro e w1 ⟨rfl, hb1⟩
  have HV := Lib.hid ((Blk3.new w _ _ _ _).below hb1 (by simp))
  have hlt := new_lt hb1
  have hb' := below_new hb1
  clear hb1
  obtain ⟨c0, c1, c2, _, _, _⟩ := HV.out
  go_wp2_with fail
  clear c0 c1 c2
  refine (HI.out _).mono ?_
  rintro e w2 ⟨rfl, hb2⟩
  have HV2 := Lib.hid (HV.out.below hb2 hlt)
  have hlt2 : w.heap.size < w2.heap.size := by have := hb2.size; omega
  have hb2' := hb'.trans (hb2.mono hb'.size)
  clear HV hb' hb2
  go_wp2_with fail
  refine (HX.out _ ((HT.out.below hb2' (Nat.le_refl _)).alloc _)).mono ?_
  rintro e w3 ⟨rfl, hb3⟩
  have HV3 := Lib.hid ((HV2.out.alloc hlt2 _).below hb3 (by simp; omega))
  have HA3 := Lib.hid ((Blk3.new w2 _ _ _ _).below hb3 (by simp))
  have hlt3 := new_lt hb3
  have hb3' := hb2'.trans ((below_new hb3).mono hb2'.size)
  clear HV2 hb2' hb3
  go_wp2_with fail
  refine (HY.out _).mono ?_
  rintro e w4 ⟨rfl, hb4⟩
  have HV4 := Lib.hid ((HV3.out.alloc (by omega) _).below hb4 (by simp; omega))
  have HA4 := Lib.hid ((HA3.out.alloc hlt3 _).below hb4 (by simp; omega))
  have HB4 := Lib.hid ((Blk3.new w3 _ _ _ _).below hb4 (by simp))
  have hlt4 := new_lt hb4
  have hb4' := hb3'.trans ((below_new hb4).mono hb3'.size)
  clear HV3 HA3 hb3' hb4
  have HT4 := Lib.hid (HT.out.below hb4' (Nat.le_refl _))
  go_wp2_with fail
  have HV5 := Lib.hid (HV4.out.alloc (by omega) (.cells #[.int .i64 0, .int .i64 0, .string ⟨#[]⟩] 23))
  have HA5 := Lib.hid (HA4.out.alloc (by omega) (.cells #[.int .i64 0, .int .i64 0, .string ⟨#[]⟩] 23))
  have HB5 := Lib.hid (HB4.out.alloc (by omega) (.cells #[.int .i64 0, .int .i64 0, .string ⟨#[]⟩] 23))
  have HC5 := Lib.hid (Blk3.new w4 (.int .i64 0) (.int .i64 0) (.string ⟨#[]⟩) 23)
  have HT5 := Lib.hid (HT4.out.alloc (.cells #[.int .i64 0, .int .i64 0, .string ⟨#[]⟩] 23))
  have hb5 : Below w.heap.size w (w4.alloc (.cells #[.int .i64 0, .int .i64 0, .string ⟨#[]⟩] 23)) := hb4'.alloc hb4'.size _
  have hs5 : (w4.alloc (.cells #[.int .i64 0, .int .i64 0, .string ⟨#[]⟩] 23)).heap.size = w4.heap.size + 1 := by simp
  clear HV4 HA4 HB4 HT4 hb4'
  generalize (w4.alloc (.cells #[.int .i64 0, .int .i64 0, .string ⟨#[]⟩] 23)) = W at HV5 HA5 HB5 HC5 HT5 hb5 hs5 ⊢
  have hne : Nonempty (BelowBy W.heap.size W) := ⟨⟨W, Below.refl _ _⟩⟩
  have HTp : Hid (∀ p : BelowBy W.heap.size W, UTab p.x) := fun p => HT5.out.below p.h (Nat.le_refl _)
  have HVp : Hid (∀ p : BelowBy W.heap.size W, Blk3 p.x w.heap.size (.int .i64 k) (.int .i64 n) (.string s)) := fun p => HV5.out.below p.h (by omega)
  have HAp : Hid (∀ p : BelowBy W.heap.size W, Blk3 p.x w2.heap.size (.int .i64 0) (.int .i64 0) (.string ⟨#[]⟩)) := fun p => HA5.out.below p.h (by omega)
  have HBp : Hid (∀ p : BelowBy W.heap.size W, Blk3 p.x w3.heap.size (.int .i64 0) (.int .i64 0) (.string ⟨#[]⟩)) := fun p => HB5.out.below p.h (by omega)
  have HCp : Hid (∀ p : BelowBy W.heap.size W, Blk3 p.x w4.heap.size (.int .i64 0) (.int .i64 0) (.string ⟨#[]⟩)) := fun p => HC5.out.below p.h (by omega)
  clear HV5 HA5 HB5 HC5 HT5
  have C0 : ∀ p : BelowBy W.heap.size W, p.x.cell? ⟨w.heap.size, 0, none⟩ = some (.int .i64 k) := fun p => (HVp.out p).1
  have C1 : ∀ p : BelowBy W.heap.size W, p.x.cell? ⟨w.heap.size, 1, none⟩ = some (.int .i64 n) := fun p => (HVp.out p).2.1
  have C2 : ∀ p : BelowBy W.heap.size W, p.x.cell? ⟨w.heap.size, 2, none⟩ = some (.string s) := fun p => (HVp.out p).2.2.1
  refine wp_region_below W.heap.size (by kernel_rfl) (by kernel_rfl) ?_
  repeat (
    refine wpQuiet_step (fun K hK => ?_)
    go_simp
    first | (refine hK _ ?_) | (refine ⟨_, fun _ => rfl, hK _ ?_⟩)
    clear hK K)
  refine wpQuiet_step (fun K hK => ?_)
  go_simp
  apply Exists.intro
  refine ⟨fun p => ?_, hK _ ?_⟩
  exact (HR1.out _ (HTp.out p)).mono fun e w5 ⟨he, hb⟩ => ⟨he, p.step (Nat.le_refl _) hb⟩
  clear hK K
  repeat (
    refine wpQuiet_step (fun K hK => ?_)
    go_simp
    first | (refine hK _ ?_) | (refine ⟨_, fun _ => rfl, hK _ ?_⟩)
    clear hK K)
  refine wpQuiet_step (fun K hK => ?_)
  go_simp
  apply Exists.intro
  refine ⟨fun p => ?_, hK _ ?_⟩
  exact (HR2.out _).mono fun e w5 ⟨he, hb⟩ => ⟨he, p.step (Nat.le_refl _) hb⟩
  clear hK K
  repeat (
    refine wpQuiet_step (fun K hK => ?_)
    go_simp
    first | (refine hK _ ?_) | (refine ⟨_, fun _ => rfl, hK _ ?_⟩)
    clear hK K)
  refine wpQuiet_step (fun K hK => ?_)
  go_simp
  apply Exists.intro
  refine ⟨fun p => ?_, hK _ ?_⟩
  exact (HLo.out _).mono fun e w5 ⟨he, hb⟩ => ⟨he, p.step (Nat.le_refl _) hb⟩
  clear hK K
  repeat (
    refine wpQuiet_step (fun K hK => ?_)
    go_simp
    first | (refine hK _ ?_) | (refine ⟨_, fun _ => rfl, hK _ ?_⟩)
    clear hK K)
  refine wpQuiet_step (fun K hK => ?_)
  go_simp
  apply Exists.intro
  refine ⟨fun p => ?_, hK _ ?_⟩
  exact (HFi.out _).mono fun e w5 ⟨he, hb⟩ => ⟨he, p.step (Nat.le_refl _) hb⟩
  clear hK K
  repeat (
    refine wpQuiet_step (fun K hK => ?_)
    go_simp
    first | (refine hK _ ?_) | (refine ⟨_, fun _ => rfl, hK _ ?_⟩)
    clear hK K)
  refine wpQuiet_nil ?_
  rintro _ ⟨p, rfl⟩
  clear C0 C1 C2
  obtain ⟨a0, a1, a2, _, _, _⟩ := HAp.out p
  obtain ⟨b0, b1, b2, _, _, _⟩ := HBp.out p
  obtain ⟨d0, d1, d2, _, _, _⟩ := HCp.out p
  have hbp := hb5.trans (p.h.mono hb5.size)
  generalize p.x = wp at a0 a1 a2 b0 b1 b2 d0 d1 d2 hbp ⊢
  go_wp2_with fail
  go_ret
  exact ⟨rfl, hbp⟩
set_option maxRecDepth 100000 in
set_option maxHeartbeats 3200000 in
theorem walk_wide_ok (k n m : Int) (s S : ByteArray) (r : Bool) (w : World) (HT : Hid (UTab w)) (hd : decide (300 < (s.size : Int)) = false) (hd2 : decide (300 < (S.size : Int)) = false) (hd3 : decide (120 < (S.size : Int)) = false)
    (HI : Hid (∀ w, Calls Tryd.prog 10 #[.int .i64 m] w fun e w' => e = .returned (.tuple #[.agg #[.int .i64 0, .int .i64 0, .string ⟨#[]⟩], .int .i64 10]) ∧ Below w.heap.size w w'))
    (HX : Hid (∀ w, UTab w → Calls Tryd.prog 11 #[.string S] w fun e w' => e = .returned (.tuple #[.agg #[.int .i64 3, .int .i64 0, .string S], .int .i64 0]) ∧ Below w.heap.size w w'))
    (HY : Hid (∀ w, Calls Tryd.prog 12 #[.string S] w fun e w' => e = .returned (.tuple #[.agg #[.int .i64 4, .int .i64 0, .string S], .int .i64 0]) ∧ Below w.heap.size w w'))
    (HR1 : Hid (∀ w, UTab w → Calls Tryd.prog 13 #[VV k n s] w fun e w' => e = .returned (.bool r) ∧ Below w.heap.size w w'))
    (HR2 : Hid (∀ w, Calls Tryd.prog 14 #[VV k n s] w fun e w' => e = .returned (.bool r) ∧ Below w.heap.size w w'))
    (HLo : Hid (∀ w, Calls Tryd.prog 15 #[.int .i64 m] w fun e w' => e = .returned (VV 2 m ⟨#[]⟩) ∧ Below w.heap.size w w'))
    (HFi : Hid (∀ w, Calls Tryd.prog 16 #[.int .i64 m, .int .i64 32] w fun e w' => e = .returned (.bool false) ∧ Below w.heap.size w w'))
    (HU : Hid (∀ w, Calls Tryd.prog 17 #[.string S] w fun e w' => e = .returned (.bool true) ∧ Below w.heap.size w w')):
    Calls Tryd.prog 3 #[VV k n s, .int .i64 m, .string S] w fun e w' => e = .returned (.bool true) ∧ Below w.heap.size w w' := by
  go_enter Tryd.func3, Tryd.ntmps3
  go_wp2_with fail
  refine (lives5_any _ (HT.out.alloc _)).mono ?_
  rintro e w1 ⟨rfl, hb1⟩
  have HV := Lib.hid ((Blk3.new w _ _ _ _).below hb1 (by simp))
  have hlt := new_lt hb1
  have hb' := below_new hb1
  clear hb1
  obtain ⟨c0, c1, c2, _, _, _⟩ := HV.out
  go_wp2_with fail
  clear c0 c1 c2
  refine (HI.out _).mono ?_
  rintro e w2 ⟨rfl, hb2⟩
  have HV2 := Lib.hid (HV.out.below hb2 hlt)
  have hlt2 : w.heap.size < w2.heap.size := by have := hb2.size; omega
  have hb2' := hb'.trans (hb2.mono hb'.size)
  clear HV hb' hb2
  go_wp2_with fail
  refine (HX.out _ ((HT.out.below hb2' (Nat.le_refl _)).alloc _)).mono ?_
  rintro e w3 ⟨rfl, hb3⟩
  have HV3 := Lib.hid ((HV2.out.alloc hlt2 _).below hb3 (by simp; omega))
  have HA3 := Lib.hid ((Blk3.new w2 _ _ _ _).below hb3 (by simp))
  have hlt3 := new_lt hb3
  have hb3' := hb2'.trans ((below_new hb3).mono hb2'.size)
  clear HV2 hb2' hb3
  go_wp2_with fail
  refine (HY.out _).mono ?_
  rintro e w4 ⟨rfl, hb4⟩
  have HV4 := Lib.hid ((HV3.out.alloc (by omega) _).below hb4 (by simp; omega))
  have HA4 := Lib.hid ((HA3.out.alloc hlt3 _).below hb4 (by simp; omega))
  have HB4 := Lib.hid ((Blk3.new w3 _ _ _ _).below hb4 (by simp))
  have hlt4 := new_lt hb4
  have hb4' := hb3'.trans ((below_new hb4).mono hb3'.size)
  clear HV3 HA3 hb3' hb4
  have HT4 := Lib.hid (HT.out.below hb4' (Nat.le_refl _))
  go_wp2_with fail
  have HV5 := Lib.hid (HV4.out.alloc (by omega) (.cells #[.int .i64 4, .int .i64 0, .string S] 23))
  have HA5 := Lib.hid (HA4.out.alloc (by omega) (.cells #[.int .i64 4, .int .i64 0, .string S] 23))
  have HB5 := Lib.hid (HB4.out.alloc (by omega) (.cells #[.int .i64 4, .int .i64 0, .string S] 23))
  have HC5 := Lib.hid (Blk3.new w4 (.int .i64 4) (.int .i64 0) (.string S) 23)
  have HT5 := Lib.hid (HT4.out.alloc (.cells #[.int .i64 4, .int .i64 0, .string S] 23))
  have hb5 : Below w.heap.size w (w4.alloc (.cells #[.int .i64 4, .int .i64 0, .string S] 23)) := hb4'.alloc hb4'.size _
  have hs5 : (w4.alloc (.cells #[.int .i64 4, .int .i64 0, .string S] 23)).heap.size = w4.heap.size + 1 := by simp
  clear HV4 HA4 HB4 HT4 hb4'
  generalize (w4.alloc (.cells #[.int .i64 4, .int .i64 0, .string S] 23)) = W at HV5 HA5 HB5 HC5 HT5 hb5 hs5 ⊢
  have hne : Nonempty (BelowBy W.heap.size W) := ⟨⟨W, Below.refl _ _⟩⟩
  have HTp : Hid (∀ p : BelowBy W.heap.size W, UTab p.x) := fun p => HT5.out.below p.h (Nat.le_refl _)
  have HVp : Hid (∀ p : BelowBy W.heap.size W, Blk3 p.x w.heap.size (.int .i64 k) (.int .i64 n) (.string s)) := fun p => HV5.out.below p.h (by omega)
  have HAp : Hid (∀ p : BelowBy W.heap.size W, Blk3 p.x w2.heap.size (.int .i64 0) (.int .i64 0) (.string ⟨#[]⟩)) := fun p => HA5.out.below p.h (by omega)
  have HBp : Hid (∀ p : BelowBy W.heap.size W, Blk3 p.x w3.heap.size (.int .i64 3) (.int .i64 0) (.string S)) := fun p => HB5.out.below p.h (by omega)
  have HCp : Hid (∀ p : BelowBy W.heap.size W, Blk3 p.x w4.heap.size (.int .i64 4) (.int .i64 0) (.string S)) := fun p => HC5.out.below p.h (by omega)
  clear HV5 HA5 HB5 HC5 HT5
  have C0 : ∀ p : BelowBy W.heap.size W, p.x.cell? ⟨w.heap.size, 0, none⟩ = some (.int .i64 k) := fun p => (HVp.out p).1
  have C1 : ∀ p : BelowBy W.heap.size W, p.x.cell? ⟨w.heap.size, 1, none⟩ = some (.int .i64 n) := fun p => (HVp.out p).2.1
  have C2 : ∀ p : BelowBy W.heap.size W, p.x.cell? ⟨w.heap.size, 2, none⟩ = some (.string s) := fun p => (HVp.out p).2.2.1
  refine wp_region_below W.heap.size (by kernel_rfl) (by kernel_rfl) ?_
  repeat (
    refine wpQuiet_step (fun K hK => ?_)
    go_simp
    first | (refine hK _ ?_) | (refine ⟨_, fun _ => rfl, hK _ ?_⟩)
    clear hK K)
  refine wpQuiet_step (fun K hK => ?_)
  go_simp
  apply Exists.intro
  refine ⟨fun p => ?_, hK _ ?_⟩
  exact (HR1.out _ (HTp.out p)).mono fun e w5 ⟨he, hb⟩ => ⟨he, p.step (Nat.le_refl _) hb⟩
  clear hK K
  repeat (
    refine wpQuiet_step (fun K hK => ?_)
    go_simp
    first | (refine hK _ ?_) | (refine ⟨_, fun _ => rfl, hK _ ?_⟩)
    clear hK K)
  refine wpQuiet_step (fun K hK => ?_)
  go_simp
  apply Exists.intro
  refine ⟨fun p => ?_, hK _ ?_⟩
  exact (HR2.out _).mono fun e w5 ⟨he, hb⟩ => ⟨he, p.step (Nat.le_refl _) hb⟩
  clear hK K
  repeat (
    refine wpQuiet_step (fun K hK => ?_)
    go_simp
    first | (refine hK _ ?_) | (refine ⟨_, fun _ => rfl, hK _ ?_⟩)
    clear hK K)
  refine wpQuiet_step (fun K hK => ?_)
  go_simp
  apply Exists.intro
  refine ⟨fun p => ?_, hK _ ?_⟩
  exact (HLo.out _).mono fun e w5 ⟨he, hb⟩ => ⟨he, p.step (Nat.le_refl _) hb⟩
  clear hK K
  repeat (
    refine wpQuiet_step (fun K hK => ?_)
    go_simp
    first | (refine hK _ ?_) | (refine ⟨_, fun _ => rfl, hK _ ?_⟩)
    clear hK K)
  refine wpQuiet_step (fun K hK => ?_)
  go_simp
  apply Exists.intro
  refine ⟨fun p => ?_, hK _ ?_⟩
  exact (HFi.out _).mono fun e w5 ⟨he, hb⟩ => ⟨he, p.step (Nat.le_refl _) hb⟩
  clear hK K
  repeat (
    refine wpQuiet_step (fun K hK => ?_)
    go_simp
    first | (refine hK _ ?_) | (refine ⟨_, fun _ => rfl, hK _ ?_⟩)
    clear hK K)
  refine wpQuiet_nil ?_
  rintro _ ⟨p, rfl⟩
  clear C0 C1 C2
  obtain ⟨a0, a1, a2, _, _, _⟩ := HAp.out p
  obtain ⟨b0, b1, b2, _, _, _⟩ := HBp.out p
  obtain ⟨d0, d1, d2, _, _, _⟩ := HCp.out p
  have hbp := hb5.trans (p.h.mono hb5.size)
  have hlA0 : w2.heap.size < p.x.heap.size := by have := p.h.size; omega
  have hlB0 : w3.heap.size < p.x.heap.size := by have := p.h.size; omega
  generalize p.x = wp at a0 a1 a2 b0 b1 b2 d0 d1 d2 hbp hlA0 hlB0 ⊢
  go_wp2_with fail
  refine (HU.out _).mono ?_
  rintro e w6 ⟨rfl, hb6⟩
  have bc := bcell5 hb6
  have hlA : w2.heap.size < wp.heap.size := hlA0
  have hlB : w3.heap.size < wp.heap.size := hlB0
  go_wp2_with fail
  go_ret
  exact ⟨rfl, hbp.trans (hb6.mono hbp.size)⟩
set_option maxRecDepth 100000 in
set_option maxHeartbeats 3200000 in
theorem walk_wide_bad (k n m : Int) (s S : ByteArray) (r : Bool) (w : World) (HT : Hid (UTab w)) (hd : decide (300 < (s.size : Int)) = false) (hd2 : decide (300 < (S.size : Int)) = false) (hd3 : decide (120 < (S.size : Int)) = false)
    (HI : Hid (∀ w, Calls Tryd.prog 10 #[.int .i64 m] w fun e w' => e = .returned (.tuple #[.agg #[.int .i64 0, .int .i64 0, .string ⟨#[]⟩], .int .i64 10]) ∧ Below w.heap.size w w'))
    (HX : Hid (∀ w, UTab w → Calls Tryd.prog 11 #[.string S] w fun e w' => e = .returned (.tuple #[.agg #[.int .i64 0, .int .i64 0, .string ⟨#[]⟩], .int .i64 5]) ∧ Below w.heap.size w w'))
    (HY : Hid (∀ w, Calls Tryd.prog 12 #[.string S] w fun e w' => e = .returned (.tuple #[.agg #[.int .i64 4, .int .i64 0, .string S], .int .i64 0]) ∧ Below w.heap.size w w'))
    (HR1 : Hid (∀ w, UTab w → Calls Tryd.prog 13 #[VV k n s] w fun e w' => e = .returned (.bool r) ∧ Below w.heap.size w w'))
    (HR2 : Hid (∀ w, Calls Tryd.prog 14 #[VV k n s] w fun e w' => e = .returned (.bool r) ∧ Below w.heap.size w w'))
    (HLo : Hid (∀ w, Calls Tryd.prog 15 #[.int .i64 m] w fun e w' => e = .returned (VV 2 m ⟨#[]⟩) ∧ Below w.heap.size w w'))
    (HFi : Hid (∀ w, Calls Tryd.prog 16 #[.int .i64 m, .int .i64 32] w fun e w' => e = .returned (.bool false) ∧ Below w.heap.size w w'))
    (HU : Hid (∀ w, Calls Tryd.prog 17 #[.string S] w fun e w' => e = .returned (.bool false) ∧ Below w.heap.size w w')):
    Calls Tryd.prog 3 #[VV k n s, .int .i64 m, .string S] w fun e w' => e = .returned (.bool true) ∧ Below w.heap.size w w' := by
  go_enter Tryd.func3, Tryd.ntmps3
  go_wp2_with fail
  refine (lives5_any _ (HT.out.alloc _)).mono ?_
  rintro e w1 ⟨rfl, hb1⟩
  have HV := Lib.hid ((Blk3.new w _ _ _ _).below hb1 (by simp))
  have hlt := new_lt hb1
  have hb' := below_new hb1
  clear hb1
  obtain ⟨c0, c1, c2, _, _, _⟩ := HV.out
  go_wp2_with fail
  clear c0 c1 c2
  refine (HI.out _).mono ?_
  rintro e w2 ⟨rfl, hb2⟩
  have HV2 := Lib.hid (HV.out.below hb2 hlt)
  have hlt2 : w.heap.size < w2.heap.size := by have := hb2.size; omega
  have hb2' := hb'.trans (hb2.mono hb'.size)
  clear HV hb' hb2
  go_wp2_with fail
  refine (HX.out _ ((HT.out.below hb2' (Nat.le_refl _)).alloc _)).mono ?_
  rintro e w3 ⟨rfl, hb3⟩
  have HV3 := Lib.hid ((HV2.out.alloc hlt2 _).below hb3 (by simp; omega))
  have HA3 := Lib.hid ((Blk3.new w2 _ _ _ _).below hb3 (by simp))
  have hlt3 := new_lt hb3
  have hb3' := hb2'.trans ((below_new hb3).mono hb2'.size)
  clear HV2 hb2' hb3
  go_wp2_with fail
  refine (HY.out _).mono ?_
  rintro e w4 ⟨rfl, hb4⟩
  have HV4 := Lib.hid ((HV3.out.alloc (by omega) _).below hb4 (by simp; omega))
  have HA4 := Lib.hid ((HA3.out.alloc hlt3 _).below hb4 (by simp; omega))
  have HB4 := Lib.hid ((Blk3.new w3 _ _ _ _).below hb4 (by simp))
  have hlt4 := new_lt hb4
  have hb4' := hb3'.trans ((below_new hb4).mono hb3'.size)
  clear HV3 HA3 hb3' hb4
  have HT4 := Lib.hid (HT.out.below hb4' (Nat.le_refl _))
  go_wp2_with fail
  have HV5 := Lib.hid (HV4.out.alloc (by omega) (.cells #[.int .i64 4, .int .i64 0, .string S] 23))
  have HA5 := Lib.hid (HA4.out.alloc (by omega) (.cells #[.int .i64 4, .int .i64 0, .string S] 23))
  have HB5 := Lib.hid (HB4.out.alloc (by omega) (.cells #[.int .i64 4, .int .i64 0, .string S] 23))
  have HC5 := Lib.hid (Blk3.new w4 (.int .i64 4) (.int .i64 0) (.string S) 23)
  have HT5 := Lib.hid (HT4.out.alloc (.cells #[.int .i64 4, .int .i64 0, .string S] 23))
  have hb5 : Below w.heap.size w (w4.alloc (.cells #[.int .i64 4, .int .i64 0, .string S] 23)) := hb4'.alloc hb4'.size _
  have hs5 : (w4.alloc (.cells #[.int .i64 4, .int .i64 0, .string S] 23)).heap.size = w4.heap.size + 1 := by simp
  clear HV4 HA4 HB4 HT4 hb4'
  generalize (w4.alloc (.cells #[.int .i64 4, .int .i64 0, .string S] 23)) = W at HV5 HA5 HB5 HC5 HT5 hb5 hs5 ⊢
  have hne : Nonempty (BelowBy W.heap.size W) := ⟨⟨W, Below.refl _ _⟩⟩
  have HTp : Hid (∀ p : BelowBy W.heap.size W, UTab p.x) := fun p => HT5.out.below p.h (Nat.le_refl _)
  have HVp : Hid (∀ p : BelowBy W.heap.size W, Blk3 p.x w.heap.size (.int .i64 k) (.int .i64 n) (.string s)) := fun p => HV5.out.below p.h (by omega)
  have HAp : Hid (∀ p : BelowBy W.heap.size W, Blk3 p.x w2.heap.size (.int .i64 0) (.int .i64 0) (.string ⟨#[]⟩)) := fun p => HA5.out.below p.h (by omega)
  have HBp : Hid (∀ p : BelowBy W.heap.size W, Blk3 p.x w3.heap.size (.int .i64 0) (.int .i64 0) (.string ⟨#[]⟩)) := fun p => HB5.out.below p.h (by omega)
  have HCp : Hid (∀ p : BelowBy W.heap.size W, Blk3 p.x w4.heap.size (.int .i64 4) (.int .i64 0) (.string S)) := fun p => HC5.out.below p.h (by omega)
  clear HV5 HA5 HB5 HC5 HT5
  have C0 : ∀ p : BelowBy W.heap.size W, p.x.cell? ⟨w.heap.size, 0, none⟩ = some (.int .i64 k) := fun p => (HVp.out p).1
  have C1 : ∀ p : BelowBy W.heap.size W, p.x.cell? ⟨w.heap.size, 1, none⟩ = some (.int .i64 n) := fun p => (HVp.out p).2.1
  have C2 : ∀ p : BelowBy W.heap.size W, p.x.cell? ⟨w.heap.size, 2, none⟩ = some (.string s) := fun p => (HVp.out p).2.2.1
  refine wp_region_below W.heap.size (by kernel_rfl) (by kernel_rfl) ?_
  repeat (
    refine wpQuiet_step (fun K hK => ?_)
    go_simp
    first | (refine hK _ ?_) | (refine ⟨_, fun _ => rfl, hK _ ?_⟩)
    clear hK K)
  refine wpQuiet_step (fun K hK => ?_)
  go_simp
  apply Exists.intro
  refine ⟨fun p => ?_, hK _ ?_⟩
  exact (HR1.out _ (HTp.out p)).mono fun e w5 ⟨he, hb⟩ => ⟨he, p.step (Nat.le_refl _) hb⟩
  clear hK K
  repeat (
    refine wpQuiet_step (fun K hK => ?_)
    go_simp
    first | (refine hK _ ?_) | (refine ⟨_, fun _ => rfl, hK _ ?_⟩)
    clear hK K)
  refine wpQuiet_step (fun K hK => ?_)
  go_simp
  apply Exists.intro
  refine ⟨fun p => ?_, hK _ ?_⟩
  exact (HR2.out _).mono fun e w5 ⟨he, hb⟩ => ⟨he, p.step (Nat.le_refl _) hb⟩
  clear hK K
  repeat (
    refine wpQuiet_step (fun K hK => ?_)
    go_simp
    first | (refine hK _ ?_) | (refine ⟨_, fun _ => rfl, hK _ ?_⟩)
    clear hK K)
  refine wpQuiet_step (fun K hK => ?_)
  go_simp
  apply Exists.intro
  refine ⟨fun p => ?_, hK _ ?_⟩
  exact (HLo.out _).mono fun e w5 ⟨he, hb⟩ => ⟨he, p.step (Nat.le_refl _) hb⟩
  clear hK K
  repeat (
    refine wpQuiet_step (fun K hK => ?_)
    go_simp
    first | (refine hK _ ?_) | (refine ⟨_, fun _ => rfl, hK _ ?_⟩)
    clear hK K)
  refine wpQuiet_step (fun K hK => ?_)
  go_simp
  apply Exists.intro
  refine ⟨fun p => ?_, hK _ ?_⟩
  exact (HFi.out _).mono fun e w5 ⟨he, hb⟩ => ⟨he, p.step (Nat.le_refl _) hb⟩
  clear hK K
  repeat (
    refine wpQuiet_step (fun K hK => ?_)
    go_simp
    first | (refine hK _ ?_) | (refine ⟨_, fun _ => rfl, hK _ ?_⟩)
    clear hK K)
  refine wpQuiet_nil ?_
  rintro _ ⟨p, rfl⟩
  clear C0 C1 C2
  obtain ⟨a0, a1, a2, _, _, _⟩ := HAp.out p
  obtain ⟨b0, b1, b2, _, _, _⟩ := HBp.out p
  obtain ⟨d0, d1, d2, _, _, _⟩ := HCp.out p
  have hbp := hb5.trans (p.h.mono hb5.size)
  have hlA0 : w2.heap.size < p.x.heap.size := by have := p.h.size; omega
  have hlB0 : w3.heap.size < p.x.heap.size := by have := p.h.size; omega
  generalize p.x = wp at a0 a1 a2 b0 b1 b2 d0 d1 d2 hbp hlA0 hlB0 ⊢
  go_wp2_with fail
  refine (HU.out _).mono ?_
  rintro e w6 ⟨rfl, hb6⟩
  have bc := bcell5 hb6
  have hlA : w2.heap.size < wp.heap.size := hlA0
  have hlB : w3.heap.size < wp.heap.size := hlB0
  go_wp2_with fail
  go_ret
  exact ⟨rfl, hbp.trans (hb6.mono hbp.size)⟩

set_option maxRecDepth 100000 in
set_option maxHeartbeats 1600000 in
theorem walk_t (k n m : Int) (s S : ByteArray) (w : World) (h1 : -9223372036854775808 ≤ n) (h2 : n < 9223372036854775808) (h3 : -9223372036854775808 ≤ m) (h4 : m < 9223372036854775808) (hs : s.size ≤ maxLen) (hS : S.size ≤ maxLen) (ht : UTab w) :
    Calls Tryd.prog 3 #[VV k n s, .int .i64 m, .string S] w fun e w' => e = .returned (.bool true) ∧ Below w.heap.size w w' := by
  unfold maxLen at hs hS
  have HT := Lib.hid ht; clear ht
  by_cases h : 300 < s.size
  · have hd : decide (300 < (s.size : Int)) = true := by simp; omega
    go_enter Tryd.func3, Tryd.ntmps3
    go_wp2_with fail
    refine (lives5_any _ (HT.out.alloc _)).mono ?_
    rintro e w1 ⟨rfl, hb1⟩
    have HV := Lib.hid ((Blk3.new w _ _ _ _).below hb1 (by simp))
    have hlt := new_lt hb1
    have hb' := below_new hb1
    clear hb1
    obtain ⟨c0, c1, c2, _, _, _⟩ := HV.out
    go_wp2_with fail
    go_ret
    exact ⟨rfl, hb'⟩
  have hd : decide (300 < (s.size : Int)) = false := by simp; omega
  by_cases h5 : 300 < S.size
  · have hd2 : decide (300 < (S.size : Int)) = true := by simp; omega
    go_enter Tryd.func3, Tryd.ntmps3
    go_wp2_with fail
    refine (lives5_any _ (HT.out.alloc _)).mono ?_
    rintro e w1 ⟨rfl, hb1⟩
    have HV := Lib.hid ((Blk3.new w _ _ _ _).below hb1 (by simp))
    have hlt := new_lt hb1
    have hb' := below_new hb1
    clear hb1
    obtain ⟨c0, c1, c2, _, _, _⟩ := HV.out
    go_wp2_with fail
    go_ret
    exact ⟨rfl, hb'⟩
  have hd2 : decide (300 < (S.size : Int)) = false := by simp; omega
  have HR1 := Lib.hid (fun w h => vright_any k n s w h)
  have HR2 := Lib.hid (fun w => vrright_any k n s w h1 h2)
  have HLo := Lib.hid (fun w => vlong_any m w)
  have HI := Lib.hid (fun w => vint_any m w)
  have HX := Lib.hid (fun w h => vtext_any S w h)
  have HY := Lib.hid (fun w => vbytes_any S w)
  have HFi : Hid (∀ w, Calls Tryd.prog 16 #[.int .i64 m, .int .i64 32] w fun e w' => e = .returned (.bool (fitsB m 32)) ∧ Below w.heap.size w w') := fun w => (rfits32 m w h3 h4).mono fun e w' ⟨a, b⟩ => ⟨a, by subst b; exact Below.refl _ _⟩
  have hiv : inV m = .tuple #[if (if fitsB m 32 = true then 0 else 10) = 0 then VV 1 m ⟨#[]⟩ else VV 0 0 ⟨#[]⟩, .int .i64 ((if fitsB m 32 = true then 0 else 10 : Nat) : Nat)] := rfl
  rw [hiv] at HI
  have hl : txE (bs S) = if 120 < S.size then 3 else if (sg (bs S)).isSome = true then 0 else 5 := by unfold txE; rw [bs_length]
  have hm : byE (bs S) = if 120 < S.size then 3 else 0 := by unfold byE; rw [bs_length]
  by_cases h6 : 120 < S.size
  · have hd3 : decide (120 < (S.size : Int)) = true := by simp; omega
    rw [if_pos h6] at hl hm
    rw [txV_err hl (by decide)] at HX
    rw [byV_err hm (by decide)] at HY
    cases hf : fitsB m 32
    · rw [hf] at HI HFi
      exact walk_wide_long k n m s S _ w HT hd hd2 hd3 HI HX HY HR1 HR2 HLo HFi
    · rw [hf] at HI HFi
      exact walk_fits_long k n m s S _ w HT hd hd2 hd3 HI HX HY HR1 HR2 HLo HFi
  · have hd3 : decide (120 < (S.size : Int)) = false := by simp; omega
    rw [if_neg h6] at hl hm
    rw [byV_ok hm] at HY
    have HU := Lib.hid (fun w => rright_any S w (by omega))
    cases hu : (sg (bs S)).isSome
    · rw [hu] at HU hl
      rw [txV_err (e := 5) hl (by decide)] at HX
      cases hf : fitsB m 32
      · rw [hf] at HI HFi
        exact walk_wide_bad k n m s S _ w HT hd hd2 hd3 HI HX HY HR1 HR2 HLo HFi HU
      · rw [hf] at HI HFi
        exact walk_fits_bad k n m s S _ w HT hd hd2 hd3 HI HX HY HR1 HR2 HLo HFi HU
    · rw [hu] at HU hl
      rw [txV_ok hl] at HX
      cases hf : fitsB m 32
      · rw [hf] at HI HFi
        exact walk_wide_ok k n m s S _ w HT hd hd2 hd3 HI HX HY HR1 HR2 HLo HFi HU
      · rw [hf] at HI HFi
        exact walk_fits_ok k n m s S _ w HT hd hd2 hd3 HI HX HY HR1 HR2 HLo HFi HU

theorem walk (k n : Int) (s : ByteArray) (m : Int) (S : ByteArray) (w : World) (_ : (Lit.int .i64 k).wf = true) (hn : (Lit.int .i64 n).wf = true) (hs : s.size ≤ maxLen) (hm : (Lit.int .i64 m).wf = true) (hS : S.size ≤ maxLen) (hL : laidMetH Tryd.prog Rows.valueMakesRow.laid w) :
    Calls Tryd.prog 3 #[VV k n s, .int .i64 m, .string S] w fun e w' => e = .returned (.bool true) ∧ Below w.heap.size w w' :=
  walk_t k n m s S w (wf64 hn).1 (wf64 hn).2 (wf64 hm).1 (wf64 hm).2 hs hS (utab_of (by kernel_rfl) (by repeat (first | exact List.Mem.head _ | apply List.Mem.tail)) (by repeat (first | exact List.Mem.head _ | apply List.Mem.tail)) hL)

theorem own : ownKnob Tryd.prog.godebug = none := by kernel_rfl
theorem laidOut : laidOutB Tryd.prog = true := by kernel_rfl
theorem door_met (os : Os) (args : Array Value) : laidMetH Tryd.prog Rows.valueMakesRow.laid ((World.doorLaid Tryd.prog 19 os).forCall (fun _ _ => 0) ⟨#[], args, []⟩).memory :=
  laidMetH_of_parts3 (fuel := 8) (laidMet_of_run' 8 (by kernel_rfl) (by kernel_rfl)) (by kernel_rfl) (by kernel_rfl)
set_option maxRecDepth 100000 in
theorem lifted (os : Os) (started : os.Started) (H : Type) (enc : TypeId × Value → H) :
    ReturnsInHanded {} Tryd.checked os 3 .any (fun w args => (Rows.valueMakesSpec.pre enc Tryd.prog Tryd.f3 [] false w args ∧ laidMetH Tryd.prog Rows.valueMakesRow.laid w) ∧ sizedMet enc Tryd.prog Tryd.f3 (OpenSpec.ofChange Rows.valueMakesSpec) false w args)
      (Rows.valueMakesSpec.post enc Tryd.prog Tryd.f3 false true false false) := by
  refine returnsInHanded_of_change_and (C := Tryd.checked) (X := fun w _ => laidMetH Tryd.prog Rows.valueMakesRow.laid w) (fun _ _ _ hh h => h.of_heap hh) own started (by kernel_rfl) Tryd.func3
    (ChangeSpec.witness_shaped (enc := enc) (C := Tryd.checked) (os := os) (X := fun w _ => laidMetH Tryd.prog Rows.valueMakesRow.laid w) false (World.doorLaid Tryd.prog 19 os) #[.agg #[.int .i64 0, .int .i64 0, .string ByteArray.empty], .int .i64 0, .string ByteArray.empty] 8 rfl (World.shaped_of_RefB (by kernel_rfl) (by kernel_rfl)) (by kernel_rfl) (by kernel_rfl) (by kernel_rfl) (door_met os _)) ?_
  intro W base args ds gs before hval0 hW hcnd _ hL _
  have hval : ∀ (j : Nat) t v, Tryd.f3.params[j]? = some t → args[j]? = some v → Value.okWide Tryd.prog W .any base t v := hval0
  have hW' := hW
  obtain ⟨p, q, hA0, hV, rfl, hfz, hnd⟩ := hW
  have hA : DataW.TrodAll enc Tryd.prog W 0 (fun _ => true) true Tryd.f3.params.toList args.toList ds p := hA0
  rw [Tryd.params3] at hA hval
  obtain ⟨v0, vs0, d0, ds0, p0, q0, hargs, rfl, rfl, h0, r0⟩ := trodAll_cons hA
  obtain ⟨v1, vs1, d1, ds1, p1, q1, rfl, rfl, rfl, h1, r1⟩ := trodAll_cons r0
  obtain ⟨v2, vs2, d2, ds2, p2, q2, rfl, rfl, rfl, h2, r2⟩ := trodAll_cons r1
  obtain ⟨rfl, rfl, rfl⟩ := trodAll_nil r2
  obtain rfl : args = #[v0, v1, v2] := by cases args; simp_all
  obtain ⟨rfl, rfl⟩ := trodVars_none hV
  obtain ⟨a0k, a0n, a0s, rfl, rfl, rfl, w0k, w0n, w0s⟩ := openV (hval 0 23 v0 rfl rfl) h0
  obtain ⟨a1, rfl, rfl, rfl, w1⟩ := open_int Tryd.underlying2 (hval 1 2 v1 rfl rfl) h1
  obtain ⟨a2, rfl, rfl, rfl, w2⟩ := open_string Tryd.underlying9 (hval 2 9 v2 rfl rfl) h2
  clear hA0 hval0
  refine (walk a0k a0n a0s a1 a2 W w0k w0n w0s w1 w2 hL).mono fun e W' ⟨he, bel⟩ => ?_
  subst he
  exact ⟨_, rfl, _, _, _, [], _, [], hW', trodAll_mk1 (shut_bool Tryd.underlying4 _), (trodAll_cons_mk (shutV _ _ w0k w0n w0s) (trodAll_cons_mk (shut_int Tryd.underlying2 w1) (trodAll_cons_mk (shut_string Tryd.underlying9 w2) trodAll_mk0))), rfl, bel.frame _, fun h => by cases h⟩

theorem over : Rows.ValueMakesSaid :=
  OpenClaim.holds_of_wide 3 Tryd.f3 rfl rfl rfl rfl rfl rfl rfl ⟨rfl, rfl, rfl, rfl, rfl⟩ rfl rfl rfl rfl rfl (by kernel_rfl) Tryd.func3 (by kernel_rfl)
    (of_decide_eq_true (by kernel_rfl)) (by unfold Func.isWrapper; first | (rw [if_pos (by decide +kernel)]; kernel_rfl) | (rw [if_neg (by decide +kernel)]; exact ⟨rfl, rfl⟩))
    (fun os started H enc _ => lifted os started H enc)

/-- the given statement: the card -/
theorem proved : Rows.ValueMakesCardSaid :=
  Claim7.holds_tied_plain_at .later [] [.data, .data] true (true, "86fb4d4ad1f2a2f64c36b279aa252757f7e24e1800983a66bf99dcb451f8f800") false
    over (fun _ h => by cases h) (by kernel_rfl) (fun _ h => by cases h) valueMakes_row_tie rfl ⟨rfl, rfl⟩ (by kernel_rfl) rfl
    (fun f fn hf hfn => by
      obtain rfl : f = 3 := Option.some.inj ((show Tryd.prog.funcNamed "haulage/haulagelaw05.ValueMakes" = some 3 by kernel_rfl).symm.trans hf) |>.symm
      obtain rfl : fn = Tryd.f3 := (Option.some.inj (Tryd.func3.symm.trans hfn)).symm
      exact ⟨by kernel_rfl, fun j t ht => by
        rw [Tryd.params3] at ht
        have hm : t ∈ [23, 2, 9] := by simpa using Array.mem_of_getElem? ht
        have hall : ([23, 2, 9].all fun u => !Tryd.prog.wantsStandIn u) = true := by kernel_rfl
        exact (show Tryd.prog.wantsStandIn t = false by simpa using List.all_eq_true.1 hall t hm)⟩)
    (by kernel_rfl)
#print axioms proved
end Go.Proofs.YtgoefndbpfhhaaaDoor.valueMakes
