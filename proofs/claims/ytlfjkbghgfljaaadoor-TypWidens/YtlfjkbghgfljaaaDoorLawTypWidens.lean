/-
  TypWidens: for every three types and two values the law returns true: what fits a type is cast to each that is as wide, fits there, stays unlike what it was unlike, and cast on is what it is cast at once. No condition but that the two tables of package utf read as the program's text lays them (tied by the card).
-/
import Derived.Test.YtlfjkbghgfljaaaDoorTypLivesC
import Derived.Test.YtlfjkbghgfljaaaDoorTypWidenMath
import Derived.Test.YtlfjkbghgfljaaaDoorTypOpen
import Derived.Test.YtlfjkbghgfljaaaDoorValOpen
import Derived.Test.YtlfjkbghgfljaaaDoorTie
import Derived.Test.YtlfjkbghgfljaaaDoorCards
import Derived.Deep.CutBlock
import Derived.Deep.DeepCutAuto
import Derived.ProofKit
import Derived.OpenShut
import Derived.ShutString
import Derived.ChangeOld
import Derived.LaidMore
import Derived.SevenTiedAt
namespace Go.Proofs.YtlfjkbghgfljaaaDoor.typWidens
open Go.ChangeShapes Go.WideShapes Go.ChangeAt Go.RowKit
open Go.ChangeMaps (open_string shut_string)

/-- three types and two values in their boxes -/
def Bx5 (w w1 : World) (ak am bk bm ck cm k n : Int) (s : ByteArray) (k' n' : Int) (s' : ByteArray) : Prop :=
  Blk2 w1 w.heap.size (.int .i64 ak) (.int .i64 am) ∧ Blk2 w1 (w.heap.size + 1) (.int .i64 bk) (.int .i64 bm) ∧ Blk2 w1 (w.heap.size + 2) (.int .i64 ck) (.int .i64 cm) ∧
  Blk3 w1 (w.heap.size + 3) (.int .i64 k) (.int .i64 n) (.string s) ∧ Blk3 w1 (w.heap.size + 4) (.int .i64 k') (.int .i64 n') (.string s') ∧ w.heap.size + 4 < w1.heap.size ∧ Below w.heap.size w w1
theorem Bx5.new (w : World) (ak am bk bm ck cm k n : Int) (s : ByteArray) (k' n' : Int) (s' : ByteArray) (t1 t2 t3 t4 t5 : TypeId) :
    Bx5 w (((((w.alloc (.cells #[.int .i64 ak, .int .i64 am] t1)).alloc (.cells #[.int .i64 bk, .int .i64 bm] t2)).alloc (.cells #[.int .i64 ck, .int .i64 cm] t3)).alloc (.cells #[.int .i64 k, .int .i64 n, .string s] t4)).alloc (.cells #[.int .i64 k', .int .i64 n', .string s'] t5)) ak am bk bm ck cm k n s k' n' s' := by
  have al : ∀ (x : World) (o : Obj), Below x.heap.size x (x.alloc o) := fun x o => (Below.refl _ _).alloc (Nat.le_refl _) o
  have b1 := al w (.cells #[.int .i64 ak, .int .i64 am] t1)
  have b2 := b1.alloc (B := w.heap.size) (by simp) (.cells #[.int .i64 bk, .int .i64 bm] t2)
  have b3 := b2.alloc (B := w.heap.size) (by simp; omega) (.cells #[.int .i64 ck, .int .i64 cm] t3)
  have b4 := b3.alloc (B := w.heap.size) (by simp; omega) (.cells #[.int .i64 k, .int .i64 n, .string s] t4)
  have b5 := b4.alloc (B := w.heap.size) (by simp; omega) (.cells #[.int .i64 k', .int .i64 n', .string s'] t5)
  exact ⟨((((Blk2.new w _ _ _ t1 rfl).alloc (by simp) _).alloc (by simp; omega) _).alloc (by simp; omega) _).alloc (by simp; omega) _,
    (((Blk2.new _ _ _ _ t2 (by simp)).alloc (by simp) _).alloc (by simp) _).alloc (by simp) _,
    ((Blk2.new _ _ _ _ t3 (by simp)).alloc (by simp) _).alloc (by simp) _,
    (Blk3.new' _ _ _ _ _ t4 (by simp)).below (al _ _) (by simp),
    Blk3.new' _ _ _ _ _ t5 (by simp), by simp, b5⟩
theorem Bx5.step {w w1 w2 : World} {ak am bk bm ck cm k n : Int} {s : ByteArray} {k' n' : Int} {s' : ByteArray} (h : Bx5 w w1 ak am bk bm ck cm k n s k' n' s') (hb : Below w1.heap.size w1 w2) : Bx5 w w2 ak am bk bm ck cm k n s k' n' s' := by
  obtain ⟨h1, h2, h3, h4, h5, h6, h7⟩ := h
  have := hb.size
  exact ⟨h1.below hb (by omega), h2.below hb (by omega), h3.below hb (by omega), h4.below hb (by omega), h5.below hb h6, by omega, h7.trans (hb.mono (by omega))⟩
set_option maxRecDepth 100000 in
set_option maxHeartbeats 6400000 in
theorem early (ak am bk bm ck cm k n : Int) (s : ByteArray) (k' n' : Int) (s' : ByteArray) (w : World) (HT : Hid (UTab w))
    (h : 300 < s.size ∨ 300 < s'.size ∨ wideT bk bm ak am = false ∨ fitT ak am k n s = false ∨ fitT ak am k' n' s' = false) :
    Calls Tryd.prog 8 #[TT ak am, TT bk bm, TT ck cm, VV k n s, VV k' n' s'] w fun e w' => e = .returned (.bool true) ∧ Below w.heap.size w w' := by
  by_cases z1 : 300 < s.size
  · have hd : decide (300 < (s.size : Int)) = true := by simp; omega
    clear h z1
    go_enter Tryd.func8, Tryd.ntmps8
    go_wp2_with fail
    refine (lives6_any _ (((((HT.out.alloc _).alloc _).alloc _).alloc _).alloc _)).mono ?_
    rintro e w1 ⟨rfl, hb1⟩
    have HT1 := Lib.hid ((((((HT.out.alloc _).alloc _).alloc _).alloc _).alloc _).below hb1 (Nat.le_refl _))
    have HB := Lib.hid ((Bx5.new w ak am bk bm ck cm k n s k' n' s' _ _ _ _ _).step hb1)
    clear hb1
    obtain ⟨⟨c0, c1, _⟩, ⟨d0, d1, _⟩, ⟨e0, e1, _⟩, ⟨g0, g1, g2, _⟩, ⟨i0, i1, i2, _⟩, _⟩ := HB.out
    go_wp2_with fail
    go_ret
    exact ⟨rfl, HB.out.2.2.2.2.2.2⟩
  have hd : decide (300 < (s.size : Int)) = false := by simp; omega
  by_cases z2 : 300 < s'.size
  · have hd2 : decide (300 < (s'.size : Int)) = true := by simp; omega
    clear h z1 z2
    go_enter Tryd.func8, Tryd.ntmps8
    go_wp2_with fail
    refine (lives6_any _ (((((HT.out.alloc _).alloc _).alloc _).alloc _).alloc _)).mono ?_
    rintro e w1 ⟨rfl, hb1⟩
    have HT1 := Lib.hid ((((((HT.out.alloc _).alloc _).alloc _).alloc _).alloc _).below hb1 (Nat.le_refl _))
    have HB := Lib.hid ((Bx5.new w ak am bk bm ck cm k n s k' n' s' _ _ _ _ _).step hb1)
    clear hb1
    obtain ⟨⟨c0, c1, _⟩, ⟨d0, d1, _⟩, ⟨e0, e1, _⟩, ⟨g0, g1, g2, _⟩, ⟨i0, i1, i2, _⟩, _⟩ := HB.out
    go_wp2_with fail
    go_ret
    exact ⟨rfl, HB.out.2.2.2.2.2.2⟩
  have hd2 : decide (300 < (s'.size : Int)) = false := by simp; omega
  have HW := Lib.hid (fun w => twide_any bk bm ak am w)
  have HF := Lib.hid (fun w h => tfits_any ak am k n s w h)
  have HG := Lib.hid (fun w h => tfits_any ak am k' n' s' w h)
  generalize wideT bk bm ak am = x at HW h
  generalize fitT ak am k n s = y at HF h
  generalize fitT ak am k' n' s' = z at HG h
  cases x
  · clear h z1 z2
    go_enter Tryd.func8, Tryd.ntmps8
    go_wp2_with fail
    refine (lives6_any _ (((((HT.out.alloc _).alloc _).alloc _).alloc _).alloc _)).mono ?_
    rintro e w1 ⟨rfl, hb1⟩
    have HT1 := Lib.hid ((((((HT.out.alloc _).alloc _).alloc _).alloc _).alloc _).below hb1 (Nat.le_refl _))
    have HB := Lib.hid ((Bx5.new w ak am bk bm ck cm k n s k' n' s' _ _ _ _ _).step hb1)
    clear hb1
    obtain ⟨⟨c0, c1, _⟩, ⟨d0, d1, _⟩, ⟨e0, e1, _⟩, ⟨g0, g1, g2, _⟩, ⟨i0, i1, i2, _⟩, _⟩ := HB.out
    go_wp2_with fail
    refine (HW.out _).mono ?_
    rintro e x2 ⟨rfl, hb⟩
    have HB2 := Lib.hid (HB.out.step hb)
    have HT2 := Lib.hid (HT1.out.below hb (Nat.le_refl _))
    clear hb
    clear c0 c1 d0 d1 e0 e1 g0 g1 g2 i0 i1 i2
    obtain ⟨⟨c0, c1, _⟩, ⟨d0, d1, _⟩, ⟨e0, e1, _⟩, ⟨g0, g1, g2, _⟩, ⟨i0, i1, i2, _⟩, _⟩ := HB2.out
    go_wp2_with fail
    go_ret
    exact ⟨rfl, HB2.out.2.2.2.2.2.2⟩
  cases y
  · clear h z1 z2
    go_enter Tryd.func8, Tryd.ntmps8
    go_wp2_with fail
    refine (lives6_any _ (((((HT.out.alloc _).alloc _).alloc _).alloc _).alloc _)).mono ?_
    rintro e w1 ⟨rfl, hb1⟩
    have HT1 := Lib.hid ((((((HT.out.alloc _).alloc _).alloc _).alloc _).alloc _).below hb1 (Nat.le_refl _))
    have HB := Lib.hid ((Bx5.new w ak am bk bm ck cm k n s k' n' s' _ _ _ _ _).step hb1)
    clear hb1
    obtain ⟨⟨c0, c1, _⟩, ⟨d0, d1, _⟩, ⟨e0, e1, _⟩, ⟨g0, g1, g2, _⟩, ⟨i0, i1, i2, _⟩, _⟩ := HB.out
    go_wp2_with fail
    refine (HW.out _).mono ?_
    rintro e x2 ⟨rfl, hb⟩
    have HB2 := Lib.hid (HB.out.step hb)
    have HT2 := Lib.hid (HT1.out.below hb (Nat.le_refl _))
    clear hb
    clear c0 c1 d0 d1 e0 e1 g0 g1 g2 i0 i1 i2
    obtain ⟨⟨c0, c1, _⟩, ⟨d0, d1, _⟩, ⟨e0, e1, _⟩, ⟨g0, g1, g2, _⟩, ⟨i0, i1, i2, _⟩, _⟩ := HB2.out
    go_wp2_with fail
    refine (HF.out _ HT2.out).mono ?_
    rintro e x3 ⟨rfl, hb⟩
    have HB3 := Lib.hid (HB2.out.step hb)
    have HT3 := Lib.hid (HT2.out.below hb (Nat.le_refl _))
    clear hb
    clear c0 c1 d0 d1 e0 e1 g0 g1 g2 i0 i1 i2
    obtain ⟨⟨c0, c1, _⟩, ⟨d0, d1, _⟩, ⟨e0, e1, _⟩, ⟨g0, g1, g2, _⟩, ⟨i0, i1, i2, _⟩, _⟩ := HB3.out
    go_wp2_with fail
    go_ret
    exact ⟨rfl, HB3.out.2.2.2.2.2.2⟩
  cases z
  · clear h z1 z2
    go_enter Tryd.func8, Tryd.ntmps8
    go_wp2_with fail
    refine (lives6_any _ (((((HT.out.alloc _).alloc _).alloc _).alloc _).alloc _)).mono ?_
    rintro e w1 ⟨rfl, hb1⟩
    have HT1 := Lib.hid ((((((HT.out.alloc _).alloc _).alloc _).alloc _).alloc _).below hb1 (Nat.le_refl _))
    have HB := Lib.hid ((Bx5.new w ak am bk bm ck cm k n s k' n' s' _ _ _ _ _).step hb1)
    clear hb1
    obtain ⟨⟨c0, c1, _⟩, ⟨d0, d1, _⟩, ⟨e0, e1, _⟩, ⟨g0, g1, g2, _⟩, ⟨i0, i1, i2, _⟩, _⟩ := HB.out
    go_wp2_with fail
    refine (HW.out _).mono ?_
    rintro e x2 ⟨rfl, hb⟩
    have HB2 := Lib.hid (HB.out.step hb)
    have HT2 := Lib.hid (HT1.out.below hb (Nat.le_refl _))
    clear hb
    clear c0 c1 d0 d1 e0 e1 g0 g1 g2 i0 i1 i2
    obtain ⟨⟨c0, c1, _⟩, ⟨d0, d1, _⟩, ⟨e0, e1, _⟩, ⟨g0, g1, g2, _⟩, ⟨i0, i1, i2, _⟩, _⟩ := HB2.out
    go_wp2_with fail
    refine (HF.out _ HT2.out).mono ?_
    rintro e x3 ⟨rfl, hb⟩
    have HB3 := Lib.hid (HB2.out.step hb)
    have HT3 := Lib.hid (HT2.out.below hb (Nat.le_refl _))
    clear hb
    clear c0 c1 d0 d1 e0 e1 g0 g1 g2 i0 i1 i2
    obtain ⟨⟨c0, c1, _⟩, ⟨d0, d1, _⟩, ⟨e0, e1, _⟩, ⟨g0, g1, g2, _⟩, ⟨i0, i1, i2, _⟩, _⟩ := HB3.out
    go_wp2_with fail
    refine (HG.out _ HT3.out).mono ?_
    rintro e x4 ⟨rfl, hb⟩
    have HB4 := Lib.hid (HB3.out.step hb)
    have HT4 := Lib.hid (HT3.out.below hb (Nat.le_refl _))
    clear hb
    clear c0 c1 d0 d1 e0 e1 g0 g1 g2 i0 i1 i2
    obtain ⟨⟨c0, c1, _⟩, ⟨d0, d1, _⟩, ⟨e0, e1, _⟩, ⟨g0, g1, g2, _⟩, ⟨i0, i1, i2, _⟩, _⟩ := HB4.out
    go_wp2_with fail
    go_ret
    exact ⟨rfl, HB4.out.2.2.2.2.2.2⟩
  · rcases h with h | h | h | h | h
    · exact absurd h z1
    · exact absurd h z2
    · cases h
    · cases h
    · cases h
set_option maxRecDepth 100000 in
set_option maxHeartbeats 12800000 in
theorem main (ak am bk bm ck cm k n : Int) (s : ByteArray) (n' : Int) (s' : ByteArray) (X Y Z : Int) (XS YS ZS : ByteArray) (bw : Bool) (w : World) (HT : Hid (UTab w)) (hd : decide (300 < (s.size : Int)) = false) (hd2 : decide (300 < (s'.size : Int)) = false)
    (HW : Hid (∀ w, Calls Tryd.prog 14 #[TT bk bm, TT ak am] w fun e w' => e = .returned (.bool true) ∧ Below w.heap.size w w'))
    (HF : Hid (∀ w, UTab w → Calls Tryd.prog 12 #[TT ak am, VV k n s] w fun e w' => e = .returned (.bool true) ∧ Below w.heap.size w w'))
    (HG : Hid (∀ w, UTab w → Calls Tryd.prog 12 #[TT ak am, VV k n' s'] w fun e w' => e = .returned (.bool true) ∧ Below w.heap.size w w'))
    (HC : Hid (∀ w, UTab w → Calls Tryd.prog 18 #[VV k n s, TT bk bm] w fun e w' => e = .returned (.tuple #[VV bk X XS, .int .i64 0]) ∧ Below w.heap.size w w'))
    (HD : Hid (∀ w, UTab w → Calls Tryd.prog 18 #[VV k n' s', TT bk bm] w fun e w' => e = .returned (.tuple #[VV bk Y YS, .int .i64 0]) ∧ Below w.heap.size w w'))
    (HX : Hid (∀ w, UTab w → Calls Tryd.prog 12 #[TT bk bm, VV bk X XS] w fun e w' => e = .returned (.bool true) ∧ Below w.heap.size w w'))
    (HWc : Hid (∀ w, Calls Tryd.prog 14 #[TT ck cm, TT bk bm] w fun e w' => e = .returned (.bool bw) ∧ Below w.heap.size w w'))
    (HCx : bw = true → Hid (∀ w, UTab w → Calls Tryd.prog 18 #[VV bk X XS, TT ck cm] w fun e w' => e = .returned (.tuple #[VV ck Z ZS, .int .i64 0]) ∧ Below w.heap.size w w'))
    (HCv : bw = true → Hid (∀ w, UTab w → Calls Tryd.prog 18 #[VV k n s, TT ck cm] w fun e w' => e = .returned (.tuple #[VV ck Z ZS, .int .i64 0]) ∧ Below w.heap.size w w'))
    (hcase : (n = n' ∧ s = s' ∧ X = Y ∧ XS = YS) ∨ (¬ n = n' ∧ ¬ X = Y) ∨ (¬ n = n' ∧ X = Y ∧ ¬ XS.toList = YS.toList) ∨ (n = n' ∧ ¬ s.toList = s'.toList ∧ X = Y ∧ ¬ XS.toList = YS.toList)) :
    Calls Tryd.prog 8 #[TT ak am, TT bk bm, TT ck cm, VV k n s, VV k n' s'] w fun e w' => e = .returned (.bool true) ∧ Below w.heap.size w w' := by
  go_enter Tryd.func8, Tryd.ntmps8
  go_wp2_with fail
  refine (lives6_any _ (((((HT.out.alloc _).alloc _).alloc _).alloc _).alloc _)).mono ?_
  rintro e w1 ⟨rfl, hb1⟩
  have HT1 := Lib.hid ((((((HT.out.alloc _).alloc _).alloc _).alloc _).alloc _).below hb1 (Nat.le_refl _))
  have HB := Lib.hid ((Bx5.new w ak am bk bm ck cm k n s k n' s' _ _ _ _ _).step hb1)
  clear hb1
  obtain ⟨⟨c0, c1, _⟩, ⟨d0, d1, _⟩, ⟨e0, e1, _⟩, ⟨g0, g1, g2, _⟩, ⟨i0, i1, i2, _⟩, _⟩ := HB.out
  go_wp2_with fail
  refine (HW.out _).mono ?_
  rintro e x2 ⟨rfl, hb⟩
  have HB2 := Lib.hid (HB.out.step hb)
  have HT2 := Lib.hid (HT1.out.below hb (Nat.le_refl _))
  clear hb
  clear c0 c1 d0 d1 e0 e1 g0 g1 g2 i0 i1 i2
  obtain ⟨⟨c0, c1, _⟩, ⟨d0, d1, _⟩, ⟨e0, e1, _⟩, ⟨g0, g1, g2, _⟩, ⟨i0, i1, i2, _⟩, _⟩ := HB2.out
  go_wp2_with fail
  refine (HF.out _ HT2.out).mono ?_
  rintro e x3 ⟨rfl, hb⟩
  have HB3 := Lib.hid (HB2.out.step hb)
  have HT3 := Lib.hid (HT2.out.below hb (Nat.le_refl _))
  clear hb
  clear c0 c1 d0 d1 e0 e1 g0 g1 g2 i0 i1 i2
  obtain ⟨⟨c0, c1, _⟩, ⟨d0, d1, _⟩, ⟨e0, e1, _⟩, ⟨g0, g1, g2, _⟩, ⟨i0, i1, i2, _⟩, _⟩ := HB3.out
  go_wp2_with fail
  refine (HG.out _ HT3.out).mono ?_
  rintro e x4 ⟨rfl, hb⟩
  have HB4 := Lib.hid (HB3.out.step hb)
  have HT4 := Lib.hid (HT3.out.below hb (Nat.le_refl _))
  clear hb
  clear c0 c1 d0 d1 e0 e1 g0 g1 g2 i0 i1 i2
  obtain ⟨⟨c0, c1, _⟩, ⟨d0, d1, _⟩, ⟨e0, e1, _⟩, ⟨g0, g1, g2, _⟩, ⟨i0, i1, i2, _⟩, _⟩ := HB4.out
  go_wp2_with fail
  refine (HC.out _ HT4.out).mono ?_
  rintro e x5 ⟨rfl, hb⟩
  have HB5 := Lib.hid (HB4.out.step hb)
  have HT5 := Lib.hid (HT4.out.below hb (Nat.le_refl _))
  clear hb
  clear c0 c1 d0 d1 e0 e1 g0 g1 g2 i0 i1 i2
  have z5 := HB5.out.2.2.2.2.2.1
  have y5 : w.heap.size + 1 < x5.heap.size := by omega
  obtain ⟨⟨c0, c1, _⟩, ⟨d0, d1, _⟩, ⟨e0, e1, _⟩, ⟨g0, g1, g2, _⟩, ⟨i0, i1, i2, _⟩, _⟩ := HB5.out
  go_wp2_with fail
  refine (HD.out _ (HT5.out.alloc _)).mono ?_
  rintro e x6 ⟨rfl, hb⟩
  have R6 := Lib.hid ((Blk3.new x5 _ _ _ _).below hb (by simp))
  have l6 : x5.heap.size < x6.heap.size := by have := hb.size; simp at this; omega
  have HB6 := Lib.hid (HB5.out.step (below_new hb))
  have HT6 := Lib.hid (HT5.out.below (below_new hb) (Nat.le_refl _))
  clear hb
  clear c0 c1 d0 d1 e0 e1 g0 g1 g2 i0 i1 i2
  go_upto_region 7 with fail
  go_cut [81] (fun v wx => v = .bool false ∧ Hid (Bx5 w wx ak am bk bm ck cm k n s k n' s') ∧ Hid (Blk3 wx x5.heap.size (.int .i64 bk) (.int .i64 X) (.string XS)) ∧ Hid (UTab wx) ∧ x5.heap.size < wx.heap.size)
  case first =>
    clear HW HF HG HC HD HWc HCx HCv HT HT1 HT2 HT3 HT4 HT5 HB HB2 HB3 HB4 HB5
    have AL : ∀ (o : Obj), Below x6.heap.size x6 (x6.alloc o) := fun o => (Below.refl _ _).alloc (Nat.le_refl _) o
    have HB7 := Lib.hid (HB6.out.step (AL (.cells #[.int .i64 bk, .int .i64 Y, .string YS] 25)))
    have R7 := Lib.hid (R6.out.below (AL (.cells #[.int .i64 bk, .int .i64 Y, .string YS] 25)) l6)
    have Q7 := Lib.hid (Blk3.new x6 (.int .i64 bk) (.int .i64 Y) (.string YS) 25)
    have HT7 := Lib.hid (HT6.out.alloc (.cells #[.int .i64 bk, .int .i64 Y, .string YS] 25))
    have l7 : x6.heap.size < (x6.alloc (.cells #[.int .i64 bk, .int .i64 Y, .string YS] 25)).heap.size := by simp
    clear AL HB6 R6 HT6
    generalize hX7 : x6.alloc (.cells #[.int .i64 bk, .int .i64 Y, .string YS] 25) = x7 at HB7 R7 Q7 HT7 l7 ⊢
    clear hX7
    obtain ⟨_, ⟨d0, d1, _⟩, _, ⟨g0, g1, g2, _⟩, ⟨i0, i1, i2, _⟩, hlt, _⟩ := HB7.out
    obtain ⟨r0, r1, r2, _⟩ := R7.out
    obtain ⟨q0, q1, q2, _⟩ := Q7.out
    have hne : Nonempty (BelowBy x7.heap.size x7) := ⟨⟨x7, Below.refl _ _⟩⟩
    have D0 : ∀ p : BelowBy x7.heap.size x7, p.x.cell? ⟨w.heap.size + 1, 0, none⟩ = some (.int .i64 bk) := fun p => (p.h.cell (by simp; omega)).trans d0
    have D1 : ∀ p : BelowBy x7.heap.size x7, p.x.cell? ⟨w.heap.size + 1, 1, none⟩ = some (.int .i64 bm) := fun p => (p.h.cell (by simp; omega)).trans d1
    have G0 : ∀ p : BelowBy x7.heap.size x7, p.x.cell? ⟨w.heap.size + 3, 0, none⟩ = some (.int .i64 k) := fun p => (p.h.cell (by simp; omega)).trans g0
    have G1 : ∀ p : BelowBy x7.heap.size x7, p.x.cell? ⟨w.heap.size + 3, 1, none⟩ = some (.int .i64 n) := fun p => (p.h.cell (by simp; omega)).trans g1
    have G2 : ∀ p : BelowBy x7.heap.size x7, p.x.cell? ⟨w.heap.size + 3, 2, none⟩ = some (.string s) := fun p => (p.h.cell (by simp; omega)).trans g2
    have I0 : ∀ p : BelowBy x7.heap.size x7, p.x.cell? ⟨w.heap.size + 4, 0, none⟩ = some (.int .i64 k) := fun p => (p.h.cell (by simp; omega)).trans i0
    have I1 : ∀ p : BelowBy x7.heap.size x7, p.x.cell? ⟨w.heap.size + 4, 1, none⟩ = some (.int .i64 n') := fun p => (p.h.cell (by simp; omega)).trans i1
    have I2 : ∀ p : BelowBy x7.heap.size x7, p.x.cell? ⟨w.heap.size + 4, 2, none⟩ = some (.string s') := fun p => (p.h.cell (by simp; omega)).trans i2
    have R0 : ∀ p : BelowBy x7.heap.size x7, p.x.cell? ⟨x5.heap.size, 0, none⟩ = some (.int .i64 bk) := fun p => (p.h.cell (by simp; omega)).trans r0
    have R1 : ∀ p : BelowBy x7.heap.size x7, p.x.cell? ⟨x5.heap.size, 1, none⟩ = some (.int .i64 X) := fun p => (p.h.cell (by simp; omega)).trans r1
    have R2 : ∀ p : BelowBy x7.heap.size x7, p.x.cell? ⟨x5.heap.size, 2, none⟩ = some (.string XS) := fun p => (p.h.cell (by simp; omega)).trans r2
    have Q0 : ∀ p : BelowBy x7.heap.size x7, p.x.cell? ⟨x6.heap.size, 0, none⟩ = some (.int .i64 bk) := fun p => (p.h.cell (by simp; omega)).trans q0
    have Q1 : ∀ p : BelowBy x7.heap.size x7, p.x.cell? ⟨x6.heap.size, 1, none⟩ = some (.int .i64 Y) := fun p => (p.h.cell (by simp; omega)).trans q1
    have Q2 : ∀ p : BelowBy x7.heap.size x7, p.x.cell? ⟨x6.heap.size, 2, none⟩ = some (.string YS) := fun p => (p.h.cell (by simp; omega)).trans q2
    have HTp : Hid (∀ p : BelowBy x7.heap.size x7, UTab p.x) := fun p => HT7.out.below p.h (Nat.le_refl _)
    clear d0 d1 g0 g1 g2 i0 i1 i2 r0 r1 r2 q0 q1 q2
    rcases hcase with ⟨rfl, rfl, rfl, rfl⟩ | ⟨hv, hx⟩ | ⟨hv, rfl, hx⟩ | ⟨rfl, hv, rfl, hx⟩
    · refine wp_region_below x7.heap.size (by kernel_rfl) (by kernel_rfl) ?_
      repeat (
        with_reducible refine wpQuiet_step (fun K hK => ?_)
        go_simp
        refine hK _ ?_
        clear hK K)
      with_reducible refine wpQuiet_step (fun K hK => ?_)
      go_simp
      apply Exists.intro
      refine ⟨fun p => ?_, hK _ ?_⟩
      exact (HX.out _ (HTp.out p)).mono fun e w5 ⟨he, hb⟩ => ⟨he, p.step (Nat.le_refl _) hb⟩
      clear hK K
      repeat (
        with_reducible refine wpQuiet_step (fun K hK => ?_)
        go_simp
        refine hK _ ?_
        clear hK K)
      refine wpQuiet_nil ?_
      rintro _ ⟨p, rfl⟩
      go_wp2_with fail
      go_meet
      exact ⟨rfl, HB7.out.step p.h, R7.out.below p.h (by omega), HTp.out p, by have := p.h.size; omega⟩
    · refine wp_region_below x7.heap.size (by kernel_rfl) (by kernel_rfl) ?_
      repeat (
        with_reducible refine wpQuiet_step (fun K hK => ?_)
        go_simp
        refine hK _ ?_
        clear hK K)
      with_reducible refine wpQuiet_step (fun K hK => ?_)
      go_simp
      apply Exists.intro
      refine ⟨fun p => ?_, hK _ ?_⟩
      exact (HX.out _ (HTp.out p)).mono fun e w5 ⟨he, hb⟩ => ⟨he, p.step (Nat.le_refl _) hb⟩
      clear hK K
      repeat (
        with_reducible refine wpQuiet_step (fun K hK => ?_)
        go_simp
        refine hK _ ?_
        clear hK K)
      refine wpQuiet_nil ?_
      rintro _ ⟨p, rfl⟩
      go_wp2_with fail
      go_meet
      exact ⟨rfl, HB7.out.step p.h, R7.out.below p.h (by omega), HTp.out p, by have := p.h.size; omega⟩
    · refine wp_region_below x7.heap.size (by kernel_rfl) (by kernel_rfl) ?_
      repeat (
        with_reducible refine wpQuiet_step (fun K hK => ?_)
        go_simp
        refine hK _ ?_
        clear hK K)
      with_reducible refine wpQuiet_step (fun K hK => ?_)
      go_simp
      apply Exists.intro
      refine ⟨fun p => ?_, hK _ ?_⟩
      exact (HX.out _ (HTp.out p)).mono fun e w5 ⟨he, hb⟩ => ⟨he, p.step (Nat.le_refl _) hb⟩
      clear hK K
      repeat (
        with_reducible refine wpQuiet_step (fun K hK => ?_)
        go_simp
        refine hK _ ?_
        clear hK K)
      refine wpQuiet_nil ?_
      rintro _ ⟨p, rfl⟩
      go_wp2_with fail
      go_meet
      exact ⟨rfl, HB7.out.step p.h, R7.out.below p.h (by omega), HTp.out p, by have := p.h.size; omega⟩
    · refine wp_region_below x7.heap.size (by kernel_rfl) (by kernel_rfl) ?_
      repeat (
        with_reducible refine wpQuiet_step (fun K hK => ?_)
        go_simp
        refine hK _ ?_
        clear hK K)
      with_reducible refine wpQuiet_step (fun K hK => ?_)
      go_simp
      apply Exists.intro
      refine ⟨fun p => ?_, hK _ ?_⟩
      exact (HX.out _ (HTp.out p)).mono fun e w5 ⟨he, hb⟩ => ⟨he, p.step (Nat.le_refl _) hb⟩
      clear hK K
      repeat (
        with_reducible refine wpQuiet_step (fun K hK => ?_)
        go_simp
        refine hK _ ?_
        clear hK K)
      refine wpQuiet_nil ?_
      rintro _ ⟨p, rfl⟩
      go_wp2_with fail
      go_meet
      exact ⟨rfl, HB7.out.step p.h, R7.out.below p.h (by omega), HTp.out p, by have := p.h.size; omega⟩
  case rest =>
    obtain ⟨rfl, HB7, R7, HT7, l7⟩ := hcut
    clear HW HF HG HC HD HX hcase HT HT1 HT2 HT3 HT4 HT5 HT6 HB HB2 HB3 HB4 HB5 HB6 R6 hd hd2
    cases bw
    · obtain ⟨⟨c0, c1, _⟩, ⟨d0, d1, _⟩, ⟨e0, e1, _⟩, ⟨g0, g1, g2, _⟩, ⟨i0, i1, i2, _⟩, _⟩ := HB7.out
      go_wp2_with fail
      refine (HWc.out _).mono ?_
      rintro e x8 ⟨rfl, hb⟩
      have HB8 := Lib.hid (HB7.out.step hb)
      clear hb
      clear c0 c1 d0 d1 e0 e1 g0 g1 g2 i0 i1 i2
      go_wp2_with fail
      go_ret
      exact ⟨rfl, HB8.out.2.2.2.2.2.2⟩
    · have HCx' := HCx rfl
      have HCv' := HCv rfl
      clear HCx HCv
      obtain ⟨⟨c0, c1, _⟩, ⟨d0, d1, _⟩, ⟨e0, e1, _⟩, ⟨g0, g1, g2, _⟩, ⟨i0, i1, i2, _⟩, _⟩ := HB7.out
      go_wp2_with fail
      refine (HWc.out _).mono ?_
      rintro e x8 ⟨rfl, hb⟩
      have HB8 := Lib.hid (HB7.out.step hb)
      have R8 := Lib.hid (R7.out.below hb l7)
      have HT8 := Lib.hid (HT7.out.below hb (Nat.le_refl _))
      have l8 := hb.size
      clear hb
      clear c0 c1 d0 d1 e0 e1 g0 g1 g2 i0 i1 i2
      obtain ⟨⟨c0, c1, _⟩, ⟨d0, d1, _⟩, ⟨e0, e1, _⟩, ⟨g0, g1, g2, _⟩, ⟨i0, i1, i2, _⟩, _⟩ := HB8.out
      obtain ⟨r0, r1, r2, _⟩ := R8.out
      go_wp2_with fail
      refine (HCx'.out _ HT8.out).mono ?_
      rintro e x9 ⟨rfl, hb⟩
      have HB9 := Lib.hid (HB8.out.step hb)
      have HT9 := Lib.hid (HT8.out.below hb (Nat.le_refl _))
      clear hb r0 r1 r2
      clear c0 c1 d0 d1 e0 e1 g0 g1 g2 i0 i1 i2
      have z9 := HB9.out.2.2.2.2.2.1
      have y9 : w.heap.size + 2 < x9.heap.size := by omega
      have y9' : w.heap.size + 3 < x9.heap.size := by omega
      obtain ⟨⟨c0, c1, _⟩, ⟨d0, d1, _⟩, ⟨e0, e1, _⟩, ⟨g0, g1, g2, _⟩, ⟨i0, i1, i2, _⟩, _⟩ := HB9.out
      go_wp2_with fail
      refine (HCv'.out _ (HT9.out.alloc _)).mono ?_
      rintro e x10 ⟨rfl, hb⟩
      have S10 := Lib.hid ((Blk3.new x9 _ _ _ _).below hb (by simp))
      have l10 : x9.heap.size < x10.heap.size := by have := hb.size; simp at this; omega
      have HB10 := Lib.hid (HB9.out.step (below_new hb))
      clear hb
      clear c0 c1 d0 d1 e0 e1 g0 g1 g2 i0 i1 i2
      obtain ⟨r0, r1, r2, _⟩ := S10.out
      have hb' := HB10.out.2.2.2.2.2.2
      go_wp2_with fail
      go_ret
      exact ⟨rfl, by go_grown⟩

theorem nl {a b : ByteArray} (h : a ≠ b) : ¬ a.toList = b.toList := fun e => h (bs_eq (by rw [ByteArray.toList_eq, ByteArray.toList_eq] at e; exact e))
theorem wN {bk n : Int} (h1 : -9223372036854775808 ≤ n) (h2 : n < 9223372036854775808) : -9223372036854775808 ≤ cN bk n ∧ cN bk n < 9223372036854775808 := by
  unfold cN
  cases numK bk
  · exact ⟨(by decide : (-9223372036854775808 : Int) ≤ 0), (by decide : (0 : Int) < 9223372036854775808)⟩
  · exact ⟨h1, h2⟩
theorem walk_t (ak am bk bm ck cm k n : Int) (s : ByteArray) (k' n' : Int) (s' : ByteArray) (w : World) (HT : Hid (UTab w)) (hn : -9223372036854775808 ≤ n ∧ n < 9223372036854775808) (hn' : -9223372036854775808 ≤ n' ∧ n' < 9223372036854775808) :
    Calls Tryd.prog 8 #[TT ak am, TT bk bm, TT ck cm, VV k n s, VV k' n' s'] w fun e w' => e = .returned (.bool true) ∧ Below w.heap.size w w' := by
  by_cases h1 : 300 < s.size
  · exact early ak am bk bm ck cm k n s k' n' s' w HT (.inl h1)
  by_cases h2 : 300 < s'.size
  · exact early ak am bk bm ck cm k n s k' n' s' w HT (.inr (.inl h2))
  cases hw : wideT bk bm ak am
  · exact early ak am bk bm ck cm k n s k' n' s' w HT (.inr (.inr (.inl hw)))
  cases hf : fitT ak am k n s
  · exact early ak am bk bm ck cm k n s k' n' s' w HT (.inr (.inr (.inr (.inl hf))))
  cases hg : fitT ak am k' n' s'
  · exact early ak am bk bm ck cm k n s k' n' s' w HT (.inr (.inr (.inr (.inr hg))))
  obtain ⟨p1, p2⟩ := widen hw hf hn.1 hn.2
  obtain ⟨p3, _⟩ := widen hw hg hn'.1 hn'.2
  have hsame := widen_same hw hf hg
  have hk : k' = k := by
    rw [fit_iff] at hf hg
    rw [hf.2.2.1, hg.2.2.1]
  subst hk
  have hka : k' = ak := ((fit_iff _ _ _ _ _).1 hf).2.2.1
  have b1 := wN (bk := bk) hn.1 hn.2
  refine main ak am bk bm ck cm k' n s n' s' (cN bk n) (cN bk n') (cN ck n) (cS bk k' n s) (cS bk k' n' s') (cS ck k' n s) (wideT ck cm bk bm) w HT (by simp; omega) (by simp; omega)
    (fun w => by have := twide_any bk bm ak am w; rw [hw] at this; exact this)
    (fun w h => by have := tfits_any ak am k' n s w h; rw [hf] at this; exact this)
    (fun w h => by have := tfits_any ak am k' n' s' w h; rw [hg] at this; exact this)
    (fun w h => by have := tcast_any k' n s bk bm w h hn.1 hn.2; rw [p1] at this; exact this)
    (fun w h => by have := tcast_any k' n' s' bk bm w h hn'.1 hn'.2; rw [p3] at this; exact this)
    (fun w h => by have := tfits_any bk bm bk (cN bk n) (cS bk k' n s) w h; rw [p2] at this; exact this)
    (fun w => twide_any ck cm bk bm w) (fun hc => ?_) (fun hc => ?_) ?_
  · obtain ⟨p4, _⟩ := widen hc p2 b1.1 b1.2
    have hw' := (wideT_iff _ _ _ _).1 hw
    have hc' := (wideT_iff _ _ _ _).1 hc
    have r1 := (rightT_iff _ _).1 hw'.2.1
    have r2 := (rightT_iff _ _).1 hc'.1
    obtain ⟨o1, o2⟩ := widen_on (bk := bk) (ck := ck) (k := k') (n := n) (s := s) (by omega) (by omega) (by omega) (by omega)
    rw [o1, o2] at p4
    exact fun w h => by have := tcast_any bk (cN bk n) (cS bk k' n s) ck cm w h b1.1 b1.2; rw [p4] at this; exact this
  · obtain ⟨p5, _⟩ := widen (wide_trans _ _ _ _ _ _ hc hw) hf hn.1 hn.2
    exact fun w h => by have := tcast_any k' n s ck cm w h hn.1 hn.2; rw [p5] at this; exact this
  · rcases hsame with ⟨rfl, rfl⟩ | ⟨q1, q2⟩ | ⟨q1, q2, q3⟩ | ⟨q1, q2, q3, q4⟩
    · exact .inl ⟨rfl, rfl, rfl, rfl⟩
    · exact .inr (.inl ⟨q1, q2⟩)
    · exact .inr (.inr (.inl ⟨q1, q2, nl q3⟩))
    · exact .inr (.inr (.inr ⟨q1, nl q2, q3, nl q4⟩))
theorem walk (ak am bk bm ck cm k n : Int) (s : ByteArray) (k' n' : Int) (s' : ByteArray) (w : World) (_ : (Lit.int .i64 ak).wf = true) (_ : (Lit.int .i64 am).wf = true) (_ : (Lit.int .i64 bk).wf = true) (_ : (Lit.int .i64 bm).wf = true) (_ : (Lit.int .i64 ck).wf = true) (_ : (Lit.int .i64 cm).wf = true)
    (_ : (Lit.int .i64 k).wf = true) (wn : (Lit.int .i64 n).wf = true) (_ : s.size ≤ maxLen) (_ : (Lit.int .i64 k').wf = true) (wn' : (Lit.int .i64 n').wf = true) (_ : s'.size ≤ maxLen) (hL : laidMetH Tryd.prog Rows.typWidensRow.laid w) :
    Calls Tryd.prog 8 #[TT ak am, TT bk bm, TT ck cm, VV k n s, VV k' n' s'] w fun e w' => e = .returned (.bool true) ∧ Below w.heap.size w w' :=
  walk_t ak am bk bm ck cm k n s k' n' s' w (utab_of (by kernel_rfl) (by repeat (first | exact List.Mem.head _ | apply List.Mem.tail)) (by repeat (first | exact List.Mem.head _ | apply List.Mem.tail)) hL) (wfT wn) (wfT wn')
theorem own : ownKnob Tryd.prog.godebug = none := by kernel_rfl
theorem laidOut : laidOutB Tryd.prog = true := by kernel_rfl
theorem door_met (os : Os) (args : Array Value) : laidMetH Tryd.prog Rows.typWidensRow.laid ((World.doorLaid Tryd.prog 24 os).forCall (fun _ _ => 0) ⟨#[], args, []⟩).memory :=
  laidMetH_of_parts3 (fuel := 8) (laidMet_of_run' 8 (by kernel_rfl) (by kernel_rfl)) (by kernel_rfl) (by kernel_rfl)
set_option maxRecDepth 100000 in
theorem lifted (os : Os) (started : os.Started) (H : Type) (enc : TypeId × Value → H) :
    ReturnsInHanded {} Tryd.checked os 8 .any (fun w args => (Rows.typWidensSpec.pre enc Tryd.prog Tryd.f8 [] false w args ∧ laidMetH Tryd.prog Rows.typWidensRow.laid w) ∧ sizedMet enc Tryd.prog Tryd.f8 (OpenSpec.ofChange Rows.typWidensSpec) false w args)
      (Rows.typWidensSpec.post enc Tryd.prog Tryd.f8 false true false false) := by
  refine returnsInHanded_of_change_and (C := Tryd.checked) (X := fun w _ => laidMetH Tryd.prog Rows.typWidensRow.laid w) (fun _ _ _ hh h => h.of_heap hh) own started (by kernel_rfl) Tryd.func8
    (ChangeSpec.witness_shaped (enc := enc) (C := Tryd.checked) (os := os) (X := fun w _ => laidMetH Tryd.prog Rows.typWidensRow.laid w) false (World.doorLaid Tryd.prog 24 os) #[.agg #[.int .i64 0, .int .i64 0], .agg #[.int .i64 0, .int .i64 0], .agg #[.int .i64 0, .int .i64 0], .agg #[.int .i64 0, .int .i64 0, .string ByteArray.empty], .agg #[.int .i64 0, .int .i64 0, .string ByteArray.empty]] 8 rfl (World.shaped_of_RefB (by kernel_rfl) (by kernel_rfl)) (by kernel_rfl) (by kernel_rfl) (by kernel_rfl) (door_met os _)) ?_
  intro W base args ds gs before hval0 hW hcnd _ hL _
  have hval : ∀ (j : Nat) t v, Tryd.f8.params[j]? = some t → args[j]? = some v → Value.okWide Tryd.prog W .any base t v := hval0
  have hW' := hW
  obtain ⟨p, q, hA0, hV, rfl, hfz, hnd⟩ := hW
  have hA : DataW.TrodAll enc Tryd.prog W 0 (fun _ => true) true Tryd.f8.params.toList args.toList ds p := hA0
  rw [Tryd.params8] at hA hval
  obtain ⟨v0, vs0, d0, ds0, p0, q0, hargs, rfl, rfl, h0, r0⟩ := trodAll_cons hA
  obtain ⟨v1, vs1, d1, ds1, p1, q1, rfl, rfl, rfl, h1, r1⟩ := trodAll_cons r0
  obtain ⟨v2, vs2, d2, ds2, p2, q2, rfl, rfl, rfl, h2, r2⟩ := trodAll_cons r1
  obtain ⟨v3, vs3, d3, ds3, p3, q3, rfl, rfl, rfl, h3, r3⟩ := trodAll_cons r2
  obtain ⟨v4, vs4, d4, ds4, p4, q4, rfl, rfl, rfl, h4, r4⟩ := trodAll_cons r3
  obtain ⟨rfl, rfl, rfl⟩ := trodAll_nil r4
  obtain rfl : args = #[v0, v1, v2, v3, v4] := by cases args; simp_all
  obtain ⟨rfl, rfl⟩ := trodVars_none hV
  obtain ⟨a0k, a0m, rfl, rfl, rfl, w0k, w0m⟩ := openT (hval 0 23 v0 rfl rfl) h0
  obtain ⟨a1k, a1m, rfl, rfl, rfl, w1k, w1m⟩ := openT (hval 1 23 v1 rfl rfl) h1
  obtain ⟨a2k, a2m, rfl, rfl, rfl, w2k, w2m⟩ := openT (hval 2 23 v2 rfl rfl) h2
  obtain ⟨a3k, a3n, a3s, rfl, rfl, rfl, w3k, w3n, w3s⟩ := openV (hval 3 25 v3 rfl rfl) h3
  obtain ⟨a4k, a4n, a4s, rfl, rfl, rfl, w4k, w4n, w4s⟩ := openV (hval 4 25 v4 rfl rfl) h4
  clear hA0 hval0
  refine (walk a0k a0m a1k a1m a2k a2m a3k a3n a3s a4k a4n a4s W w0k w0m w1k w1m w2k w2m w3k w3n w3s w4k w4n w4s hL).mono fun e W' ⟨he, bel⟩ => ?_
  subst he
  exact ⟨_, rfl, _, _, _, [], _, [], hW', trodAll_mk1 (shut_bool Tryd.underlying4 _), (trodAll_cons_mk (shutT _ _ w0k w0m) (trodAll_cons_mk (shutT _ _ w1k w1m) (trodAll_cons_mk (shutT _ _ w2k w2m) (trodAll_cons_mk (shutV _ _ w3k w3n w3s) (trodAll_cons_mk (shutV _ _ w4k w4n w4s) trodAll_mk0))))), rfl, bel.frame _, fun h => by cases h⟩

theorem over : Rows.TypWidensSaid :=
  OpenClaim.holds_of_wide 8 Tryd.f8 rfl rfl rfl rfl rfl rfl rfl ⟨rfl, rfl, rfl, rfl, rfl⟩ rfl rfl rfl rfl rfl (by kernel_rfl) Tryd.func8 (by kernel_rfl)
    (of_decide_eq_true (by kernel_rfl)) (by unfold Func.isWrapper; first | (rw [if_pos (by decide +kernel)]; kernel_rfl) | (rw [if_neg (by decide +kernel)]; exact ⟨rfl, rfl⟩))
    (fun os started H enc _ => lifted os started H enc)

/-- the given statement: the card -/
theorem proved : Rows.TypWidensCardSaid :=
  Claim7.holds_tied_plain_at .later [] [.data, .data] true (true, "845853d3f8880bdd6136c05de4f38f3bb66592e8b8213e703d0902246d778162") false
    over (fun _ h => by cases h) (by kernel_rfl) (fun _ h => by cases h) typWidens_row_tie rfl ⟨rfl, rfl⟩ (by kernel_rfl) rfl
    (fun f fn hf hfn => by
      obtain rfl : f = 8 := Option.some.inj ((show Tryd.prog.funcNamed "haulage/haulagelaw06.TypWidens" = some 8 by kernel_rfl).symm.trans hf) |>.symm
      obtain rfl : fn = Tryd.f8 := (Option.some.inj (Tryd.func8.symm.trans hfn)).symm
      exact ⟨by kernel_rfl, fun j t ht => by
        rw [Tryd.params8] at ht
        have hm : t ∈ [23, 23, 23, 25, 25] := by simpa using Array.mem_of_getElem? ht
        have hall : ([23, 23, 23, 25, 25].all fun u => !Tryd.prog.wantsStandIn u) = true := by kernel_rfl
        exact (show Tryd.prog.wantsStandIn t = false by simpa using List.all_eq_true.1 hall t hm)⟩)
    (by kernel_rfl)
#print axioms proved
end Go.Proofs.YtlfjkbghgfljaaaDoor.typWidens
