/-
  ValueOrders: for every two values the law returns true: which of them stands first is what the page says. No condition but that the two tables of package utf read as the program's text lays them (tied by the card).
-/
import Derived.Test.YtgoefndbpfhhaaaDoorValLivesC
import Derived.Test.YtgoefndbpfhhaaaDoorValOrdC
import Derived.Test.YtgoefndbpfhhaaaDoorValOpen
import Derived.Test.YtgoefndbpfhhaaaDoorQuietB
import Derived.Test.YtgoefndbpfhhaaaDoorTie
import Derived.Test.YtgoefndbpfhhaaaDoorCards
import Derived.ProofKit
import Derived.OpenShut
import Derived.ShutString
import Derived.ChangeOld
import Derived.LaidMore
import Derived.SevenTiedAt
namespace Go.Proofs.YtgoefndbpfhhaaaDoor.valueOrders
open Go.ChangeShapes Go.WideShapes Go.ChangeAt Go.RowKit
open Go.ChangeMaps (open_string shut_string)

theorem Blk3.new' (w : World) (b : Nat) (x y z : Value) (t : TypeId) (h : b = w.heap.size) : Blk3 (w.alloc (.cells #[x, y, z] t)) b x y z := by
  subst h; exact Blk3.new w x y z t
theorem ordV_cases (k n : Int) (l : List UInt8) (k' n' : Int) (l' : List UInt8) : ordV k n l k' n' l' = -1 ∨ ordV k n l k' n' l' = 0 ∨ ordV k n l k' n' l' = 1 := by
  have c : ∀ x y, cmpI x y = -1 ∨ cmpI x y = 0 ∨ cmpI x y = 1 := fun x y => by
    unfold cmpI
    split
    · exact .inl rfl
    · split
      · exact .inr (.inr rfl)
      · exact .inr (.inl rfl)
  unfold ordV or3
  split
  · exact c _ _
  · split
    · exact c _ _
    · exact ordN_cases _ _
set_option maxRecDepth 100000 in
set_option maxHeartbeats 3200000 in
theorem walk_lt1 (k n : Int) (s : ByteArray) (k' n' : Int) (t : ByteArray) (w : World) (HT : Hid (UTab w)) (hd : decide (300 < (s.size : Int)) = false) (hd2 : decide (300 < (t.size : Int)) = false)
    (Hab : Hid (∀ w, Calls Tryd.prog 18 #[VV k n s, VV k' n' t] w fun e w' => e = .returned (.int .i64 (-1)) ∧ Below w.heap.size w w'))
    (Rab : Hid (∀ w, Calls Tryd.prog 19 #[VV k n s, VV k' n' t] w fun e w' => e = .returned (.int .i64 (-1)) ∧ Below w.heap.size w w'))
    (Hba : Hid (∀ w, Calls Tryd.prog 18 #[VV k' n' t, VV k n s] w fun e w' => e = .returned (.int .i64 (1)) ∧ Below w.heap.size w w'))
    (Haa : Hid (∀ w, Calls Tryd.prog 18 #[VV k n s, VV k n s] w fun e w' => e = .returned (.int .i64 0) ∧ Below w.heap.size w w'))
    (hne0 : ¬ k = k') :
    Calls Tryd.prog 4 #[VV k n s, VV k' n' t] w fun e w' => e = .returned (.bool true) ∧ Below w.heap.size w w' := by
  have hw1 : IntKind.i64.wrap 1 = 1 := by decide
  have hw2 : IntKind.i64.wrap (-1) = -1 := by decide
  go_enter Tryd.func4, Tryd.ntmps4
  go_wp2_with fail
  refine (lives5_any _ ((HT.out.alloc _).alloc _)).mono ?_
  rintro e w1 ⟨rfl, hb1⟩
  have HA := Lib.hid (((Blk3.new w _ _ _ _).alloc (by simp) _).below hb1 (by simp; omega))
  have HB := Lib.hid ((Blk3.new' (w.alloc (.cells #[.int .i64 k, .int .i64 n, .string s] 23)) (w.heap.size + 1) _ _ _ _ (by simp)).below hb1 (by simp))
  have hlt : w.heap.size + 1 < w1.heap.size := by have := hb1.size; simp at this; omega
  have hb' : Below w.heap.size w w1 := ((below_new (o := .cells #[.int .i64 k, .int .i64 n, .string s] 23) (w := w) (Below.trans ((Below.refl _ _).alloc (Nat.le_refl _) _) (hb1.mono (by simp)))))
  clear hb1
  obtain ⟨c0, c1, c2, _, _, _⟩ := HA.out
  obtain ⟨d0, d1, d2, _, _, _⟩ := HB.out
  go_wp2_with fail
  have hne : Nonempty (BelowBy w1.heap.size w1) := ⟨⟨w1, Below.refl _ _⟩⟩
  have C0 : ∀ p : BelowBy w1.heap.size w1, p.x.cell? ⟨w.heap.size, 0, none⟩ = some (.int .i64 k) := fun p => (p.h.cell (by simp; omega)).trans c0
  have C1 : ∀ p : BelowBy w1.heap.size w1, p.x.cell? ⟨w.heap.size, 1, none⟩ = some (.int .i64 n) := fun p => (p.h.cell (by simp; omega)).trans c1
  have C2 : ∀ p : BelowBy w1.heap.size w1, p.x.cell? ⟨w.heap.size, 2, none⟩ = some (.string s) := fun p => (p.h.cell (by simp; omega)).trans c2
  have D0 : ∀ p : BelowBy w1.heap.size w1, p.x.cell? ⟨w.heap.size + 1, 0, none⟩ = some (.int .i64 k') := fun p => (p.h.cell (by simp; omega)).trans d0
  have D1 : ∀ p : BelowBy w1.heap.size w1, p.x.cell? ⟨w.heap.size + 1, 1, none⟩ = some (.int .i64 n') := fun p => (p.h.cell (by simp; omega)).trans d1
  have D2 : ∀ p : BelowBy w1.heap.size w1, p.x.cell? ⟨w.heap.size + 1, 2, none⟩ = some (.string t) := fun p => (p.h.cell (by simp; omega)).trans d2
  clear c0 c1 c2 d0 d1 d2
  refine wp_region_below w1.heap.size (by kernel_rfl) (by kernel_rfl) ?_
  repeat (
    refine wpQuiet_step (fun K hK => ?_)
    go_simp
    refine hK _ ?_
    clear hK K)
  refine wpQuiet_step (fun K hK => ?_)
  go_simp
  apply Exists.intro
  refine ⟨fun p => ?_, hK _ ?_⟩
  exact (Hab.out _).mono fun e w5 ⟨he, hb⟩ => ⟨he, p.step (Nat.le_refl _) hb⟩
  clear hK K
  repeat (
    refine wpQuiet_step (fun K hK => ?_)
    go_simp
    refine hK _ ?_
    clear hK K)
  refine wpQuiet_step (fun K hK => ?_)
  go_simp
  apply Exists.intro
  refine ⟨fun p => ?_, hK _ ?_⟩
  exact (Rab.out _).mono fun e w5 ⟨he, hb⟩ => ⟨he, p.step (Nat.le_refl _) hb⟩
  clear hK K
  repeat (
    refine wpQuiet_step (fun K hK => ?_)
    go_simp
    refine hK _ ?_
    clear hK K)
  refine wpQuiet_step (fun K hK => ?_)
  go_simp
  apply Exists.intro
  refine ⟨fun p => ?_, hK _ ?_⟩
  exact (Hba.out _).mono fun e w5 ⟨he, hb⟩ => ⟨he, p.step (Nat.le_refl _) hb⟩
  clear hK K
  repeat (
    refine wpQuiet_step (fun K hK => ?_)
    go_simp
    refine hK _ ?_
    clear hK K)
  refine wpQuiet_step (fun K hK => ?_)
  go_simp
  apply Exists.intro
  refine ⟨fun p => ?_, hK _ ?_⟩
  exact (Rab.out _).mono fun e w5 ⟨he, hb⟩ => ⟨he, p.step (Nat.le_refl _) hb⟩
  clear hK K
  repeat (
    refine wpQuiet_step (fun K hK => ?_)
    go_simp
    refine hK _ ?_
    clear hK K)
  refine wpQuiet_step (fun K hK => ?_)
  go_simp
  apply Exists.intro
  refine ⟨fun p => ?_, hK _ ?_⟩
  exact (Haa.out _).mono fun e w5 ⟨he, hb⟩ => ⟨he, p.step (Nat.le_refl _) hb⟩
  clear hK K
  repeat (
    refine wpQuiet_step (fun K hK => ?_)
    go_simp
    refine hK _ ?_
    clear hK K)
  refine wpQuiet_step (fun K hK => ?_)
  go_simp
  apply Exists.intro
  refine ⟨fun p => ?_, hK _ ?_⟩
  exact (Hab.out _).mono fun e w5 ⟨he, hb⟩ => ⟨he, p.step (Nat.le_refl _) hb⟩
  clear hK K
  repeat (
    refine wpQuiet_step (fun K hK => ?_)
    go_simp
    refine hK _ ?_
    clear hK K)
  refine wpQuiet_nil ?_
  rintro _ ⟨p, rfl⟩
  go_wp2_with fail
  go_ret
  exact ⟨rfl, hb'.trans (p.h.mono hb'.size)⟩
set_option maxRecDepth 100000 in
set_option maxHeartbeats 3200000 in
theorem walk_lt2 (k n : Int) (s : ByteArray) (n' : Int) (t : ByteArray) (w : World) (HT : Hid (UTab w)) (hd : decide (300 < (s.size : Int)) = false) (hd2 : decide (300 < (t.size : Int)) = false)
    (Hab : Hid (∀ w, Calls Tryd.prog 18 #[VV k n s, VV k n' t] w fun e w' => e = .returned (.int .i64 (-1)) ∧ Below w.heap.size w w'))
    (Rab : Hid (∀ w, Calls Tryd.prog 19 #[VV k n s, VV k n' t] w fun e w' => e = .returned (.int .i64 (-1)) ∧ Below w.heap.size w w'))
    (Hba : Hid (∀ w, Calls Tryd.prog 18 #[VV k n' t, VV k n s] w fun e w' => e = .returned (.int .i64 (1)) ∧ Below w.heap.size w w'))
    (Haa : Hid (∀ w, Calls Tryd.prog 18 #[VV k n s, VV k n s] w fun e w' => e = .returned (.int .i64 0) ∧ Below w.heap.size w w'))
    (hne0 : ¬ n = n') :
    Calls Tryd.prog 4 #[VV k n s, VV k n' t] w fun e w' => e = .returned (.bool true) ∧ Below w.heap.size w w' := by
  have hw1 : IntKind.i64.wrap 1 = 1 := by decide
  have hw2 : IntKind.i64.wrap (-1) = -1 := by decide
  go_enter Tryd.func4, Tryd.ntmps4
  go_wp2_with fail
  refine (lives5_any _ ((HT.out.alloc _).alloc _)).mono ?_
  rintro e w1 ⟨rfl, hb1⟩
  have HA := Lib.hid (((Blk3.new w _ _ _ _).alloc (by simp) _).below hb1 (by simp; omega))
  have HB := Lib.hid ((Blk3.new' (w.alloc (.cells #[.int .i64 k, .int .i64 n, .string s] 23)) (w.heap.size + 1) _ _ _ _ (by simp)).below hb1 (by simp))
  have hlt : w.heap.size + 1 < w1.heap.size := by have := hb1.size; simp at this; omega
  have hb' : Below w.heap.size w w1 := ((below_new (o := .cells #[.int .i64 k, .int .i64 n, .string s] 23) (w := w) (Below.trans ((Below.refl _ _).alloc (Nat.le_refl _) _) (hb1.mono (by simp)))))
  clear hb1
  obtain ⟨c0, c1, c2, _, _, _⟩ := HA.out
  obtain ⟨d0, d1, d2, _, _, _⟩ := HB.out
  go_wp2_with fail
  have hne : Nonempty (BelowBy w1.heap.size w1) := ⟨⟨w1, Below.refl _ _⟩⟩
  have C0 : ∀ p : BelowBy w1.heap.size w1, p.x.cell? ⟨w.heap.size, 0, none⟩ = some (.int .i64 k) := fun p => (p.h.cell (by simp; omega)).trans c0
  have C1 : ∀ p : BelowBy w1.heap.size w1, p.x.cell? ⟨w.heap.size, 1, none⟩ = some (.int .i64 n) := fun p => (p.h.cell (by simp; omega)).trans c1
  have C2 : ∀ p : BelowBy w1.heap.size w1, p.x.cell? ⟨w.heap.size, 2, none⟩ = some (.string s) := fun p => (p.h.cell (by simp; omega)).trans c2
  have D0 : ∀ p : BelowBy w1.heap.size w1, p.x.cell? ⟨w.heap.size + 1, 0, none⟩ = some (.int .i64 k) := fun p => (p.h.cell (by simp; omega)).trans d0
  have D1 : ∀ p : BelowBy w1.heap.size w1, p.x.cell? ⟨w.heap.size + 1, 1, none⟩ = some (.int .i64 n') := fun p => (p.h.cell (by simp; omega)).trans d1
  have D2 : ∀ p : BelowBy w1.heap.size w1, p.x.cell? ⟨w.heap.size + 1, 2, none⟩ = some (.string t) := fun p => (p.h.cell (by simp; omega)).trans d2
  clear c0 c1 c2 d0 d1 d2
  refine wp_region_below w1.heap.size (by kernel_rfl) (by kernel_rfl) ?_
  repeat (
    refine wpQuiet_step (fun K hK => ?_)
    go_simp
    refine hK _ ?_
    clear hK K)
  refine wpQuiet_step (fun K hK => ?_)
  go_simp
  apply Exists.intro
  refine ⟨fun p => ?_, hK _ ?_⟩
  exact (Hab.out _).mono fun e w5 ⟨he, hb⟩ => ⟨he, p.step (Nat.le_refl _) hb⟩
  clear hK K
  repeat (
    refine wpQuiet_step (fun K hK => ?_)
    go_simp
    refine hK _ ?_
    clear hK K)
  refine wpQuiet_step (fun K hK => ?_)
  go_simp
  apply Exists.intro
  refine ⟨fun p => ?_, hK _ ?_⟩
  exact (Rab.out _).mono fun e w5 ⟨he, hb⟩ => ⟨he, p.step (Nat.le_refl _) hb⟩
  clear hK K
  repeat (
    refine wpQuiet_step (fun K hK => ?_)
    go_simp
    refine hK _ ?_
    clear hK K)
  refine wpQuiet_step (fun K hK => ?_)
  go_simp
  apply Exists.intro
  refine ⟨fun p => ?_, hK _ ?_⟩
  exact (Hba.out _).mono fun e w5 ⟨he, hb⟩ => ⟨he, p.step (Nat.le_refl _) hb⟩
  clear hK K
  repeat (
    refine wpQuiet_step (fun K hK => ?_)
    go_simp
    refine hK _ ?_
    clear hK K)
  refine wpQuiet_step (fun K hK => ?_)
  go_simp
  apply Exists.intro
  refine ⟨fun p => ?_, hK _ ?_⟩
  exact (Rab.out _).mono fun e w5 ⟨he, hb⟩ => ⟨he, p.step (Nat.le_refl _) hb⟩
  clear hK K
  repeat (
    refine wpQuiet_step (fun K hK => ?_)
    go_simp
    refine hK _ ?_
    clear hK K)
  refine wpQuiet_step (fun K hK => ?_)
  go_simp
  apply Exists.intro
  refine ⟨fun p => ?_, hK _ ?_⟩
  exact (Haa.out _).mono fun e w5 ⟨he, hb⟩ => ⟨he, p.step (Nat.le_refl _) hb⟩
  clear hK K
  repeat (
    refine wpQuiet_step (fun K hK => ?_)
    go_simp
    refine hK _ ?_
    clear hK K)
  refine wpQuiet_step (fun K hK => ?_)
  go_simp
  apply Exists.intro
  refine ⟨fun p => ?_, hK _ ?_⟩
  exact (Hab.out _).mono fun e w5 ⟨he, hb⟩ => ⟨he, p.step (Nat.le_refl _) hb⟩
  clear hK K
  repeat (
    refine wpQuiet_step (fun K hK => ?_)
    go_simp
    refine hK _ ?_
    clear hK K)
  refine wpQuiet_nil ?_
  rintro _ ⟨p, rfl⟩
  go_wp2_with fail
  go_ret
  exact ⟨rfl, hb'.trans (p.h.mono hb'.size)⟩
set_option maxRecDepth 100000 in
set_option maxHeartbeats 3200000 in
theorem walk_lt3 (k n : Int) (s t : ByteArray) (w : World) (HT : Hid (UTab w)) (hd : decide (300 < (s.size : Int)) = false) (hd2 : decide (300 < (t.size : Int)) = false)
    (Hab : Hid (∀ w, Calls Tryd.prog 18 #[VV k n s, VV k n t] w fun e w' => e = .returned (.int .i64 (-1)) ∧ Below w.heap.size w w'))
    (Rab : Hid (∀ w, Calls Tryd.prog 19 #[VV k n s, VV k n t] w fun e w' => e = .returned (.int .i64 (-1)) ∧ Below w.heap.size w w'))
    (Hba : Hid (∀ w, Calls Tryd.prog 18 #[VV k n t, VV k n s] w fun e w' => e = .returned (.int .i64 (1)) ∧ Below w.heap.size w w'))
    (Haa : Hid (∀ w, Calls Tryd.prog 18 #[VV k n s, VV k n s] w fun e w' => e = .returned (.int .i64 0) ∧ Below w.heap.size w w'))
    (hne0 : ¬ s.toList = t.toList) :
    Calls Tryd.prog 4 #[VV k n s, VV k n t] w fun e w' => e = .returned (.bool true) ∧ Below w.heap.size w w' := by
  have hw1 : IntKind.i64.wrap 1 = 1 := by decide
  have hw2 : IntKind.i64.wrap (-1) = -1 := by decide
  go_enter Tryd.func4, Tryd.ntmps4
  go_wp2_with fail
  refine (lives5_any _ ((HT.out.alloc _).alloc _)).mono ?_
  rintro e w1 ⟨rfl, hb1⟩
  have HA := Lib.hid (((Blk3.new w _ _ _ _).alloc (by simp) _).below hb1 (by simp; omega))
  have HB := Lib.hid ((Blk3.new' (w.alloc (.cells #[.int .i64 k, .int .i64 n, .string s] 23)) (w.heap.size + 1) _ _ _ _ (by simp)).below hb1 (by simp))
  have hlt : w.heap.size + 1 < w1.heap.size := by have := hb1.size; simp at this; omega
  have hb' : Below w.heap.size w w1 := ((below_new (o := .cells #[.int .i64 k, .int .i64 n, .string s] 23) (w := w) (Below.trans ((Below.refl _ _).alloc (Nat.le_refl _) _) (hb1.mono (by simp)))))
  clear hb1
  obtain ⟨c0, c1, c2, _, _, _⟩ := HA.out
  obtain ⟨d0, d1, d2, _, _, _⟩ := HB.out
  go_wp2_with fail
  have hne : Nonempty (BelowBy w1.heap.size w1) := ⟨⟨w1, Below.refl _ _⟩⟩
  have C0 : ∀ p : BelowBy w1.heap.size w1, p.x.cell? ⟨w.heap.size, 0, none⟩ = some (.int .i64 k) := fun p => (p.h.cell (by simp; omega)).trans c0
  have C1 : ∀ p : BelowBy w1.heap.size w1, p.x.cell? ⟨w.heap.size, 1, none⟩ = some (.int .i64 n) := fun p => (p.h.cell (by simp; omega)).trans c1
  have C2 : ∀ p : BelowBy w1.heap.size w1, p.x.cell? ⟨w.heap.size, 2, none⟩ = some (.string s) := fun p => (p.h.cell (by simp; omega)).trans c2
  have D0 : ∀ p : BelowBy w1.heap.size w1, p.x.cell? ⟨w.heap.size + 1, 0, none⟩ = some (.int .i64 k) := fun p => (p.h.cell (by simp; omega)).trans d0
  have D1 : ∀ p : BelowBy w1.heap.size w1, p.x.cell? ⟨w.heap.size + 1, 1, none⟩ = some (.int .i64 n) := fun p => (p.h.cell (by simp; omega)).trans d1
  have D2 : ∀ p : BelowBy w1.heap.size w1, p.x.cell? ⟨w.heap.size + 1, 2, none⟩ = some (.string t) := fun p => (p.h.cell (by simp; omega)).trans d2
  clear c0 c1 c2 d0 d1 d2
  refine wp_region_below w1.heap.size (by kernel_rfl) (by kernel_rfl) ?_
  repeat (
    refine wpQuiet_step (fun K hK => ?_)
    go_simp
    refine hK _ ?_
    clear hK K)
  refine wpQuiet_step (fun K hK => ?_)
  go_simp
  apply Exists.intro
  refine ⟨fun p => ?_, hK _ ?_⟩
  exact (Hab.out _).mono fun e w5 ⟨he, hb⟩ => ⟨he, p.step (Nat.le_refl _) hb⟩
  clear hK K
  repeat (
    refine wpQuiet_step (fun K hK => ?_)
    go_simp
    refine hK _ ?_
    clear hK K)
  refine wpQuiet_step (fun K hK => ?_)
  go_simp
  apply Exists.intro
  refine ⟨fun p => ?_, hK _ ?_⟩
  exact (Rab.out _).mono fun e w5 ⟨he, hb⟩ => ⟨he, p.step (Nat.le_refl _) hb⟩
  clear hK K
  repeat (
    refine wpQuiet_step (fun K hK => ?_)
    go_simp
    refine hK _ ?_
    clear hK K)
  refine wpQuiet_step (fun K hK => ?_)
  go_simp
  apply Exists.intro
  refine ⟨fun p => ?_, hK _ ?_⟩
  exact (Hba.out _).mono fun e w5 ⟨he, hb⟩ => ⟨he, p.step (Nat.le_refl _) hb⟩
  clear hK K
  repeat (
    refine wpQuiet_step (fun K hK => ?_)
    go_simp
    refine hK _ ?_
    clear hK K)
  refine wpQuiet_step (fun K hK => ?_)
  go_simp
  apply Exists.intro
  refine ⟨fun p => ?_, hK _ ?_⟩
  exact (Rab.out _).mono fun e w5 ⟨he, hb⟩ => ⟨he, p.step (Nat.le_refl _) hb⟩
  clear hK K
  repeat (
    refine wpQuiet_step (fun K hK => ?_)
    go_simp
    refine hK _ ?_
    clear hK K)
  refine wpQuiet_step (fun K hK => ?_)
  go_simp
  apply Exists.intro
  refine ⟨fun p => ?_, hK _ ?_⟩
  exact (Haa.out _).mono fun e w5 ⟨he, hb⟩ => ⟨he, p.step (Nat.le_refl _) hb⟩
  clear hK K
  repeat (
    refine wpQuiet_step (fun K hK => ?_)
    go_simp
    refine hK _ ?_
    clear hK K)
  refine wpQuiet_step (fun K hK => ?_)
  go_simp
  apply Exists.intro
  refine ⟨fun p => ?_, hK _ ?_⟩
  exact (Hab.out _).mono fun e w5 ⟨he, hb⟩ => ⟨he, p.step (Nat.le_refl _) hb⟩
  clear hK K
  repeat (
    refine wpQuiet_step (fun K hK => ?_)
    go_simp
    refine hK _ ?_
    clear hK K)
  refine wpQuiet_nil ?_
  rintro _ ⟨p, rfl⟩
  go_wp2_with fail
  go_ret
  exact ⟨rfl, hb'.trans (p.h.mono hb'.size)⟩
set_option maxRecDepth 100000 in
set_option maxHeartbeats 3200000 in
theorem walk_gt1 (k n : Int) (s : ByteArray) (k' n' : Int) (t : ByteArray) (w : World) (HT : Hid (UTab w)) (hd : decide (300 < (s.size : Int)) = false) (hd2 : decide (300 < (t.size : Int)) = false)
    (Hab : Hid (∀ w, Calls Tryd.prog 18 #[VV k n s, VV k' n' t] w fun e w' => e = .returned (.int .i64 (1)) ∧ Below w.heap.size w w'))
    (Rab : Hid (∀ w, Calls Tryd.prog 19 #[VV k n s, VV k' n' t] w fun e w' => e = .returned (.int .i64 (1)) ∧ Below w.heap.size w w'))
    (Hba : Hid (∀ w, Calls Tryd.prog 18 #[VV k' n' t, VV k n s] w fun e w' => e = .returned (.int .i64 (-1)) ∧ Below w.heap.size w w'))
    (Haa : Hid (∀ w, Calls Tryd.prog 18 #[VV k n s, VV k n s] w fun e w' => e = .returned (.int .i64 0) ∧ Below w.heap.size w w'))
    (hne0 : ¬ k = k') :
    Calls Tryd.prog 4 #[VV k n s, VV k' n' t] w fun e w' => e = .returned (.bool true) ∧ Below w.heap.size w w' := by
  have hw1 : IntKind.i64.wrap 1 = 1 := by decide
  have hw2 : IntKind.i64.wrap (-1) = -1 := by decide
  go_enter Tryd.func4, Tryd.ntmps4
  go_wp2_with fail
  refine (lives5_any _ ((HT.out.alloc _).alloc _)).mono ?_
  rintro e w1 ⟨rfl, hb1⟩
  have HA := Lib.hid (((Blk3.new w _ _ _ _).alloc (by simp) _).below hb1 (by simp; omega))
  have HB := Lib.hid ((Blk3.new' (w.alloc (.cells #[.int .i64 k, .int .i64 n, .string s] 23)) (w.heap.size + 1) _ _ _ _ (by simp)).below hb1 (by simp))
  have hlt : w.heap.size + 1 < w1.heap.size := by have := hb1.size; simp at this; omega
  have hb' : Below w.heap.size w w1 := ((below_new (o := .cells #[.int .i64 k, .int .i64 n, .string s] 23) (w := w) (Below.trans ((Below.refl _ _).alloc (Nat.le_refl _) _) (hb1.mono (by simp)))))
  clear hb1
  obtain ⟨c0, c1, c2, _, _, _⟩ := HA.out
  obtain ⟨d0, d1, d2, _, _, _⟩ := HB.out
  go_wp2_with fail
  have hne : Nonempty (BelowBy w1.heap.size w1) := ⟨⟨w1, Below.refl _ _⟩⟩
  have C0 : ∀ p : BelowBy w1.heap.size w1, p.x.cell? ⟨w.heap.size, 0, none⟩ = some (.int .i64 k) := fun p => (p.h.cell (by simp; omega)).trans c0
  have C1 : ∀ p : BelowBy w1.heap.size w1, p.x.cell? ⟨w.heap.size, 1, none⟩ = some (.int .i64 n) := fun p => (p.h.cell (by simp; omega)).trans c1
  have C2 : ∀ p : BelowBy w1.heap.size w1, p.x.cell? ⟨w.heap.size, 2, none⟩ = some (.string s) := fun p => (p.h.cell (by simp; omega)).trans c2
  have D0 : ∀ p : BelowBy w1.heap.size w1, p.x.cell? ⟨w.heap.size + 1, 0, none⟩ = some (.int .i64 k') := fun p => (p.h.cell (by simp; omega)).trans d0
  have D1 : ∀ p : BelowBy w1.heap.size w1, p.x.cell? ⟨w.heap.size + 1, 1, none⟩ = some (.int .i64 n') := fun p => (p.h.cell (by simp; omega)).trans d1
  have D2 : ∀ p : BelowBy w1.heap.size w1, p.x.cell? ⟨w.heap.size + 1, 2, none⟩ = some (.string t) := fun p => (p.h.cell (by simp; omega)).trans d2
  clear c0 c1 c2 d0 d1 d2
  refine wp_region_below w1.heap.size (by kernel_rfl) (by kernel_rfl) ?_
  repeat (
    refine wpQuiet_step (fun K hK => ?_)
    go_simp
    refine hK _ ?_
    clear hK K)
  refine wpQuiet_step (fun K hK => ?_)
  go_simp
  apply Exists.intro
  refine ⟨fun p => ?_, hK _ ?_⟩
  exact (Hab.out _).mono fun e w5 ⟨he, hb⟩ => ⟨he, p.step (Nat.le_refl _) hb⟩
  clear hK K
  repeat (
    refine wpQuiet_step (fun K hK => ?_)
    go_simp
    refine hK _ ?_
    clear hK K)
  refine wpQuiet_step (fun K hK => ?_)
  go_simp
  apply Exists.intro
  refine ⟨fun p => ?_, hK _ ?_⟩
  exact (Rab.out _).mono fun e w5 ⟨he, hb⟩ => ⟨he, p.step (Nat.le_refl _) hb⟩
  clear hK K
  repeat (
    refine wpQuiet_step (fun K hK => ?_)
    go_simp
    refine hK _ ?_
    clear hK K)
  refine wpQuiet_step (fun K hK => ?_)
  go_simp
  apply Exists.intro
  refine ⟨fun p => ?_, hK _ ?_⟩
  exact (Hba.out _).mono fun e w5 ⟨he, hb⟩ => ⟨he, p.step (Nat.le_refl _) hb⟩
  clear hK K
  repeat (
    refine wpQuiet_step (fun K hK => ?_)
    go_simp
    refine hK _ ?_
    clear hK K)
  refine wpQuiet_step (fun K hK => ?_)
  go_simp
  apply Exists.intro
  refine ⟨fun p => ?_, hK _ ?_⟩
  exact (Rab.out _).mono fun e w5 ⟨he, hb⟩ => ⟨he, p.step (Nat.le_refl _) hb⟩
  clear hK K
  repeat (
    refine wpQuiet_step (fun K hK => ?_)
    go_simp
    refine hK _ ?_
    clear hK K)
  refine wpQuiet_step (fun K hK => ?_)
  go_simp
  apply Exists.intro
  refine ⟨fun p => ?_, hK _ ?_⟩
  exact (Haa.out _).mono fun e w5 ⟨he, hb⟩ => ⟨he, p.step (Nat.le_refl _) hb⟩
  clear hK K
  repeat (
    refine wpQuiet_step (fun K hK => ?_)
    go_simp
    refine hK _ ?_
    clear hK K)
  refine wpQuiet_step (fun K hK => ?_)
  go_simp
  apply Exists.intro
  refine ⟨fun p => ?_, hK _ ?_⟩
  exact (Hab.out _).mono fun e w5 ⟨he, hb⟩ => ⟨he, p.step (Nat.le_refl _) hb⟩
  clear hK K
  repeat (
    refine wpQuiet_step (fun K hK => ?_)
    go_simp
    refine hK _ ?_
    clear hK K)
  refine wpQuiet_nil ?_
  rintro _ ⟨p, rfl⟩
  go_wp2_with fail
  go_ret
  exact ⟨rfl, hb'.trans (p.h.mono hb'.size)⟩
set_option maxRecDepth 100000 in
set_option maxHeartbeats 3200000 in
theorem walk_gt2 (k n : Int) (s : ByteArray) (n' : Int) (t : ByteArray) (w : World) (HT : Hid (UTab w)) (hd : decide (300 < (s.size : Int)) = false) (hd2 : decide (300 < (t.size : Int)) = false)
    (Hab : Hid (∀ w, Calls Tryd.prog 18 #[VV k n s, VV k n' t] w fun e w' => e = .returned (.int .i64 (1)) ∧ Below w.heap.size w w'))
    (Rab : Hid (∀ w, Calls Tryd.prog 19 #[VV k n s, VV k n' t] w fun e w' => e = .returned (.int .i64 (1)) ∧ Below w.heap.size w w'))
    (Hba : Hid (∀ w, Calls Tryd.prog 18 #[VV k n' t, VV k n s] w fun e w' => e = .returned (.int .i64 (-1)) ∧ Below w.heap.size w w'))
    (Haa : Hid (∀ w, Calls Tryd.prog 18 #[VV k n s, VV k n s] w fun e w' => e = .returned (.int .i64 0) ∧ Below w.heap.size w w'))
    (hne0 : ¬ n = n') :
    Calls Tryd.prog 4 #[VV k n s, VV k n' t] w fun e w' => e = .returned (.bool true) ∧ Below w.heap.size w w' := by
  have hw1 : IntKind.i64.wrap 1 = 1 := by decide
  have hw2 : IntKind.i64.wrap (-1) = -1 := by decide
  go_enter Tryd.func4, Tryd.ntmps4
  go_wp2_with fail
  refine (lives5_any _ ((HT.out.alloc _).alloc _)).mono ?_
  rintro e w1 ⟨rfl, hb1⟩
  have HA := Lib.hid (((Blk3.new w _ _ _ _).alloc (by simp) _).below hb1 (by simp; omega))
  have HB := Lib.hid ((Blk3.new' (w.alloc (.cells #[.int .i64 k, .int .i64 n, .string s] 23)) (w.heap.size + 1) _ _ _ _ (by simp)).below hb1 (by simp))
  have hlt : w.heap.size + 1 < w1.heap.size := by have := hb1.size; simp at this; omega
  have hb' : Below w.heap.size w w1 := ((below_new (o := .cells #[.int .i64 k, .int .i64 n, .string s] 23) (w := w) (Below.trans ((Below.refl _ _).alloc (Nat.le_refl _) _) (hb1.mono (by simp)))))
  clear hb1
  obtain ⟨c0, c1, c2, _, _, _⟩ := HA.out
  obtain ⟨d0, d1, d2, _, _, _⟩ := HB.out
  go_wp2_with fail
  have hne : Nonempty (BelowBy w1.heap.size w1) := ⟨⟨w1, Below.refl _ _⟩⟩
  have C0 : ∀ p : BelowBy w1.heap.size w1, p.x.cell? ⟨w.heap.size, 0, none⟩ = some (.int .i64 k) := fun p => (p.h.cell (by simp; omega)).trans c0
  have C1 : ∀ p : BelowBy w1.heap.size w1, p.x.cell? ⟨w.heap.size, 1, none⟩ = some (.int .i64 n) := fun p => (p.h.cell (by simp; omega)).trans c1
  have C2 : ∀ p : BelowBy w1.heap.size w1, p.x.cell? ⟨w.heap.size, 2, none⟩ = some (.string s) := fun p => (p.h.cell (by simp; omega)).trans c2
  have D0 : ∀ p : BelowBy w1.heap.size w1, p.x.cell? ⟨w.heap.size + 1, 0, none⟩ = some (.int .i64 k) := fun p => (p.h.cell (by simp; omega)).trans d0
  have D1 : ∀ p : BelowBy w1.heap.size w1, p.x.cell? ⟨w.heap.size + 1, 1, none⟩ = some (.int .i64 n') := fun p => (p.h.cell (by simp; omega)).trans d1
  have D2 : ∀ p : BelowBy w1.heap.size w1, p.x.cell? ⟨w.heap.size + 1, 2, none⟩ = some (.string t) := fun p => (p.h.cell (by simp; omega)).trans d2
  clear c0 c1 c2 d0 d1 d2
  refine wp_region_below w1.heap.size (by kernel_rfl) (by kernel_rfl) ?_
  repeat (
    refine wpQuiet_step (fun K hK => ?_)
    go_simp
    refine hK _ ?_
    clear hK K)
  refine wpQuiet_step (fun K hK => ?_)
  go_simp
  apply Exists.intro
  refine ⟨fun p => ?_, hK _ ?_⟩
  exact (Hab.out _).mono fun e w5 ⟨he, hb⟩ => ⟨he, p.step (Nat.le_refl _) hb⟩
  clear hK K
  repeat (
    refine wpQuiet_step (fun K hK => ?_)
    go_simp
    refine hK _ ?_
    clear hK K)
  refine wpQuiet_step (fun K hK => ?_)
  go_simp
  apply Exists.intro
  refine ⟨fun p => ?_, hK _ ?_⟩
  exact (Rab.out _).mono fun e w5 ⟨he, hb⟩ => ⟨he, p.step (Nat.le_refl _) hb⟩
  clear hK K
  repeat (
    refine wpQuiet_step (fun K hK => ?_)
    go_simp
    refine hK _ ?_
    clear hK K)
  refine wpQuiet_step (fun K hK => ?_)
  go_simp
  apply Exists.intro
  refine ⟨fun p => ?_, hK _ ?_⟩
  exact (Hba.out _).mono fun e w5 ⟨he, hb⟩ => ⟨he, p.step (Nat.le_refl _) hb⟩
  clear hK K
  repeat (
    refine wpQuiet_step (fun K hK => ?_)
    go_simp
    refine hK _ ?_
    clear hK K)
  refine wpQuiet_step (fun K hK => ?_)
  go_simp
  apply Exists.intro
  refine ⟨fun p => ?_, hK _ ?_⟩
  exact (Rab.out _).mono fun e w5 ⟨he, hb⟩ => ⟨he, p.step (Nat.le_refl _) hb⟩
  clear hK K
  repeat (
    refine wpQuiet_step (fun K hK => ?_)
    go_simp
    refine hK _ ?_
    clear hK K)
  refine wpQuiet_step (fun K hK => ?_)
  go_simp
  apply Exists.intro
  refine ⟨fun p => ?_, hK _ ?_⟩
  exact (Haa.out _).mono fun e w5 ⟨he, hb⟩ => ⟨he, p.step (Nat.le_refl _) hb⟩
  clear hK K
  repeat (
    refine wpQuiet_step (fun K hK => ?_)
    go_simp
    refine hK _ ?_
    clear hK K)
  refine wpQuiet_step (fun K hK => ?_)
  go_simp
  apply Exists.intro
  refine ⟨fun p => ?_, hK _ ?_⟩
  exact (Hab.out _).mono fun e w5 ⟨he, hb⟩ => ⟨he, p.step (Nat.le_refl _) hb⟩
  clear hK K
  repeat (
    refine wpQuiet_step (fun K hK => ?_)
    go_simp
    refine hK _ ?_
    clear hK K)
  refine wpQuiet_nil ?_
  rintro _ ⟨p, rfl⟩
  go_wp2_with fail
  go_ret
  exact ⟨rfl, hb'.trans (p.h.mono hb'.size)⟩
set_option maxRecDepth 100000 in
set_option maxHeartbeats 3200000 in
theorem walk_gt3 (k n : Int) (s t : ByteArray) (w : World) (HT : Hid (UTab w)) (hd : decide (300 < (s.size : Int)) = false) (hd2 : decide (300 < (t.size : Int)) = false)
    (Hab : Hid (∀ w, Calls Tryd.prog 18 #[VV k n s, VV k n t] w fun e w' => e = .returned (.int .i64 (1)) ∧ Below w.heap.size w w'))
    (Rab : Hid (∀ w, Calls Tryd.prog 19 #[VV k n s, VV k n t] w fun e w' => e = .returned (.int .i64 (1)) ∧ Below w.heap.size w w'))
    (Hba : Hid (∀ w, Calls Tryd.prog 18 #[VV k n t, VV k n s] w fun e w' => e = .returned (.int .i64 (-1)) ∧ Below w.heap.size w w'))
    (Haa : Hid (∀ w, Calls Tryd.prog 18 #[VV k n s, VV k n s] w fun e w' => e = .returned (.int .i64 0) ∧ Below w.heap.size w w'))
    (hne0 : ¬ s.toList = t.toList) :
    Calls Tryd.prog 4 #[VV k n s, VV k n t] w fun e w' => e = .returned (.bool true) ∧ Below w.heap.size w w' := by
  have hw1 : IntKind.i64.wrap 1 = 1 := by decide
  have hw2 : IntKind.i64.wrap (-1) = -1 := by decide
  go_enter Tryd.func4, Tryd.ntmps4
  go_wp2_with fail
  refine (lives5_any _ ((HT.out.alloc _).alloc _)).mono ?_
  rintro e w1 ⟨rfl, hb1⟩
  have HA := Lib.hid (((Blk3.new w _ _ _ _).alloc (by simp) _).below hb1 (by simp; omega))
  have HB := Lib.hid ((Blk3.new' (w.alloc (.cells #[.int .i64 k, .int .i64 n, .string s] 23)) (w.heap.size + 1) _ _ _ _ (by simp)).below hb1 (by simp))
  have hlt : w.heap.size + 1 < w1.heap.size := by have := hb1.size; simp at this; omega
  have hb' : Below w.heap.size w w1 := ((below_new (o := .cells #[.int .i64 k, .int .i64 n, .string s] 23) (w := w) (Below.trans ((Below.refl _ _).alloc (Nat.le_refl _) _) (hb1.mono (by simp)))))
  clear hb1
  obtain ⟨c0, c1, c2, _, _, _⟩ := HA.out
  obtain ⟨d0, d1, d2, _, _, _⟩ := HB.out
  go_wp2_with fail
  have hne : Nonempty (BelowBy w1.heap.size w1) := ⟨⟨w1, Below.refl _ _⟩⟩
  have C0 : ∀ p : BelowBy w1.heap.size w1, p.x.cell? ⟨w.heap.size, 0, none⟩ = some (.int .i64 k) := fun p => (p.h.cell (by simp; omega)).trans c0
  have C1 : ∀ p : BelowBy w1.heap.size w1, p.x.cell? ⟨w.heap.size, 1, none⟩ = some (.int .i64 n) := fun p => (p.h.cell (by simp; omega)).trans c1
  have C2 : ∀ p : BelowBy w1.heap.size w1, p.x.cell? ⟨w.heap.size, 2, none⟩ = some (.string s) := fun p => (p.h.cell (by simp; omega)).trans c2
  have D0 : ∀ p : BelowBy w1.heap.size w1, p.x.cell? ⟨w.heap.size + 1, 0, none⟩ = some (.int .i64 k) := fun p => (p.h.cell (by simp; omega)).trans d0
  have D1 : ∀ p : BelowBy w1.heap.size w1, p.x.cell? ⟨w.heap.size + 1, 1, none⟩ = some (.int .i64 n) := fun p => (p.h.cell (by simp; omega)).trans d1
  have D2 : ∀ p : BelowBy w1.heap.size w1, p.x.cell? ⟨w.heap.size + 1, 2, none⟩ = some (.string t) := fun p => (p.h.cell (by simp; omega)).trans d2
  clear c0 c1 c2 d0 d1 d2
  refine wp_region_below w1.heap.size (by kernel_rfl) (by kernel_rfl) ?_
  repeat (
    refine wpQuiet_step (fun K hK => ?_)
    go_simp
    refine hK _ ?_
    clear hK K)
  refine wpQuiet_step (fun K hK => ?_)
  go_simp
  apply Exists.intro
  refine ⟨fun p => ?_, hK _ ?_⟩
  exact (Hab.out _).mono fun e w5 ⟨he, hb⟩ => ⟨he, p.step (Nat.le_refl _) hb⟩
  clear hK K
  repeat (
    refine wpQuiet_step (fun K hK => ?_)
    go_simp
    refine hK _ ?_
    clear hK K)
  refine wpQuiet_step (fun K hK => ?_)
  go_simp
  apply Exists.intro
  refine ⟨fun p => ?_, hK _ ?_⟩
  exact (Rab.out _).mono fun e w5 ⟨he, hb⟩ => ⟨he, p.step (Nat.le_refl _) hb⟩
  clear hK K
  repeat (
    refine wpQuiet_step (fun K hK => ?_)
    go_simp
    refine hK _ ?_
    clear hK K)
  refine wpQuiet_step (fun K hK => ?_)
  go_simp
  apply Exists.intro
  refine ⟨fun p => ?_, hK _ ?_⟩
  exact (Hba.out _).mono fun e w5 ⟨he, hb⟩ => ⟨he, p.step (Nat.le_refl _) hb⟩
  clear hK K
  repeat (
    refine wpQuiet_step (fun K hK => ?_)
    go_simp
    refine hK _ ?_
    clear hK K)
  refine wpQuiet_step (fun K hK => ?_)
  go_simp
  apply Exists.intro
  refine ⟨fun p => ?_, hK _ ?_⟩
  exact (Rab.out _).mono fun e w5 ⟨he, hb⟩ => ⟨he, p.step (Nat.le_refl _) hb⟩
  clear hK K
  repeat (
    refine wpQuiet_step (fun K hK => ?_)
    go_simp
    refine hK _ ?_
    clear hK K)
  refine wpQuiet_step (fun K hK => ?_)
  go_simp
  apply Exists.intro
  refine ⟨fun p => ?_, hK _ ?_⟩
  exact (Haa.out _).mono fun e w5 ⟨he, hb⟩ => ⟨he, p.step (Nat.le_refl _) hb⟩
  clear hK K
  repeat (
    refine wpQuiet_step (fun K hK => ?_)
    go_simp
    refine hK _ ?_
    clear hK K)
  refine wpQuiet_step (fun K hK => ?_)
  go_simp
  apply Exists.intro
  refine ⟨fun p => ?_, hK _ ?_⟩
  exact (Hab.out _).mono fun e w5 ⟨he, hb⟩ => ⟨he, p.step (Nat.le_refl _) hb⟩
  clear hK K
  repeat (
    refine wpQuiet_step (fun K hK => ?_)
    go_simp
    refine hK _ ?_
    clear hK K)
  refine wpQuiet_nil ?_
  rintro _ ⟨p, rfl⟩
  go_wp2_with fail
  go_ret
  exact ⟨rfl, hb'.trans (p.h.mono hb'.size)⟩
set_option maxRecDepth 100000 in
set_option maxHeartbeats 3200000 in
theorem walk_t (k n : Int) (s : ByteArray) (k' n' : Int) (t : ByteArray) (w : World) (hs : s.size ≤ maxLen) (ht' : t.size ≤ maxLen) (ht : UTab w) :
    Calls Tryd.prog 4 #[VV k n s, VV k' n' t] w fun e w' => e = .returned (.bool true) ∧ Below w.heap.size w w' := by
  unfold maxLen at hs ht'
  have HT := Lib.hid ht; clear ht
  by_cases h : 300 < s.size
  · have hd : decide (300 < (s.size : Int)) = true := by simp; omega
    go_enter Tryd.func4, Tryd.ntmps4
    go_wp2_with fail
    refine (lives5_any _ ((HT.out.alloc _).alloc _)).mono ?_
    rintro e w1 ⟨rfl, hb1⟩
    have HA := Lib.hid (((Blk3.new w _ _ _ _).alloc (by simp) _).below hb1 (by simp; omega))
    have HB := Lib.hid ((Blk3.new' (w.alloc (.cells #[.int .i64 k, .int .i64 n, .string s] 23)) (w.heap.size + 1) _ _ _ _ (by simp)).below hb1 (by simp))
    have hlt : w.heap.size + 1 < w1.heap.size := by have := hb1.size; simp at this; omega
    have hb' : Below w.heap.size w w1 := ((below_new (o := .cells #[.int .i64 k, .int .i64 n, .string s] 23) (w := w) (Below.trans ((Below.refl _ _).alloc (Nat.le_refl _) _) (hb1.mono (by simp)))))
    clear hb1
    obtain ⟨c0, c1, c2, _, _, _⟩ := HA.out
    obtain ⟨d0, d1, d2, _, _, _⟩ := HB.out
    go_wp2_with fail
    go_ret
    exact ⟨rfl, hb'⟩
  have hd : decide (300 < (s.size : Int)) = false := by simp; omega
  by_cases h3 : 300 < t.size
  · have hd2 : decide (300 < (t.size : Int)) = true := by simp; omega
    go_enter Tryd.func4, Tryd.ntmps4
    go_wp2_with fail
    refine (lives5_any _ ((HT.out.alloc _).alloc _)).mono ?_
    rintro e w1 ⟨rfl, hb1⟩
    have HA := Lib.hid (((Blk3.new w _ _ _ _).alloc (by simp) _).below hb1 (by simp; omega))
    have HB := Lib.hid ((Blk3.new' (w.alloc (.cells #[.int .i64 k, .int .i64 n, .string s] 23)) (w.heap.size + 1) _ _ _ _ (by simp)).below hb1 (by simp))
    have hlt : w.heap.size + 1 < w1.heap.size := by have := hb1.size; simp at this; omega
    have hb' : Below w.heap.size w w1 := ((below_new (o := .cells #[.int .i64 k, .int .i64 n, .string s] 23) (w := w) (Below.trans ((Below.refl _ _).alloc (Nat.le_refl _) _) (hb1.mono (by simp)))))
    clear hb1
    obtain ⟨c0, c1, c2, _, _, _⟩ := HA.out
    obtain ⟨d0, d1, d2, _, _, _⟩ := HB.out
    go_wp2_with fail
    go_ret
    exact ⟨rfl, hb'⟩
  have hd2 : decide (300 < (t.size : Int)) = false := by simp; omega
  have Hab := Lib.hid (fun w => vorder_any k n k' n' s t w (by omega) (by omega))
  have Rab := Lib.hid (fun w => vrorder_any k n k' n' s t w (by omega) (by omega))
  have Hba := Lib.hid (fun w => vorder_any k' n' k n t s w (by omega) (by omega))
  have Haa := Lib.hid (fun w => vorder_any k n k n s s w (by omega) (by omega))
  rw [ordV_neg k n (bs s) k' n' (bs t)] at Hba
  rw [(ordV_zero k n (bs s) k n (bs s)).2 ⟨rfl, rfl, rfl⟩] at Haa
  have hz := ordV_zero k n (bs s) k' n' (bs t)
  rcases ordV_cases k n (bs s) k' n' (bs t) with ho | ho | ho
  · rw [ho] at Hab Rab Hba hz
    by_cases e1 : k = k'
    · subst e1
      by_cases e2 : n = n'
      · subst e2
        exact walk_lt3 k n s t w HT hd hd2 Hab Rab Hba Haa (fun e => by
          have := hz.2 ⟨rfl, rfl, by rw [ByteArray.toList_eq, ByteArray.toList_eq] at e; exact e⟩
          omega)
      · exact walk_lt2 k n s n' t w HT hd hd2 Hab Rab Hba Haa e2
    · exact walk_lt1 k n s k' n' t w HT hd hd2 Hab Rab Hba Haa e1
  · obtain ⟨rfl, rfl, hst⟩ := hz.1 ho
    obtain rfl := bs_eq hst
    rw [ho] at Hab Rab
    clear hz hst ho Hba Haa
    go_enter Tryd.func4, Tryd.ntmps4
    go_wp2_with fail
    refine (lives5_any _ ((HT.out.alloc _).alloc _)).mono ?_
    rintro e w1 ⟨rfl, hb1⟩
    have HA := Lib.hid (((Blk3.new w _ _ _ _).alloc (by simp) _).below hb1 (by simp; omega))
    have HB := Lib.hid ((Blk3.new' (w.alloc (.cells #[.int .i64 k, .int .i64 n, .string s] 23)) (w.heap.size + 1) _ _ _ _ (by simp)).below hb1 (by simp))
    have hlt : w.heap.size + 1 < w1.heap.size := by have := hb1.size; simp at this; omega
    have hb' : Below w.heap.size w w1 := ((below_new (o := .cells #[.int .i64 k, .int .i64 n, .string s] 23) (w := w) (Below.trans ((Below.refl _ _).alloc (Nat.le_refl _) _) (hb1.mono (by simp)))))
    clear hb1
    obtain ⟨c0, c1, c2, _, _, _⟩ := HA.out
    obtain ⟨d0, d1, d2, _, _, _⟩ := HB.out
    go_wp2_with fail
    have hne : Nonempty (BelowBy w1.heap.size w1) := ⟨⟨w1, Below.refl _ _⟩⟩
    have C0 : ∀ p : BelowBy w1.heap.size w1, p.x.cell? ⟨w.heap.size, 0, none⟩ = some (.int .i64 k) := fun p => (p.h.cell (by simp; omega)).trans c0
    have C1 : ∀ p : BelowBy w1.heap.size w1, p.x.cell? ⟨w.heap.size, 1, none⟩ = some (.int .i64 n) := fun p => (p.h.cell (by simp; omega)).trans c1
    have C2 : ∀ p : BelowBy w1.heap.size w1, p.x.cell? ⟨w.heap.size, 2, none⟩ = some (.string s) := fun p => (p.h.cell (by simp; omega)).trans c2
    have D0 : ∀ p : BelowBy w1.heap.size w1, p.x.cell? ⟨w.heap.size + 1, 0, none⟩ = some (.int .i64 k) := fun p => (p.h.cell (by simp; omega)).trans d0
    have D1 : ∀ p : BelowBy w1.heap.size w1, p.x.cell? ⟨w.heap.size + 1, 1, none⟩ = some (.int .i64 n) := fun p => (p.h.cell (by simp; omega)).trans d1
    have D2 : ∀ p : BelowBy w1.heap.size w1, p.x.cell? ⟨w.heap.size + 1, 2, none⟩ = some (.string s) := fun p => (p.h.cell (by simp; omega)).trans d2
    clear c0 c1 c2 d0 d1 d2
    refine wp_region_below w1.heap.size (by kernel_rfl) (by kernel_rfl) ?_
    repeat (
      refine wpQuiet_step (fun K hK => ?_)
      go_simp
      refine hK _ ?_
      clear hK K)
    refine wpQuiet_step (fun K hK => ?_)
    go_simp
    apply Exists.intro
    refine ⟨fun p => ?_, hK _ ?_⟩
    exact (Hab.out _).mono fun e w5 ⟨he, hb⟩ => ⟨he, p.step (Nat.le_refl _) hb⟩
    clear hK K
    repeat (
      refine wpQuiet_step (fun K hK => ?_)
      go_simp
      refine hK _ ?_
      clear hK K)
    refine wpQuiet_step (fun K hK => ?_)
    go_simp
    apply Exists.intro
    refine ⟨fun p => ?_, hK _ ?_⟩
    exact (Rab.out _).mono fun e w5 ⟨he, hb⟩ => ⟨he, p.step (Nat.le_refl _) hb⟩
    clear hK K
    repeat (
      refine wpQuiet_step (fun K hK => ?_)
      go_simp
      refine hK _ ?_
      clear hK K)
    refine wpQuiet_step (fun K hK => ?_)
    go_simp
    apply Exists.intro
    refine ⟨fun p => ?_, hK _ ?_⟩
    exact (Hab.out _).mono fun e w5 ⟨he, hb⟩ => ⟨he, p.step (Nat.le_refl _) hb⟩
    clear hK K
    repeat (
      refine wpQuiet_step (fun K hK => ?_)
      go_simp
      refine hK _ ?_
      clear hK K)
    refine wpQuiet_step (fun K hK => ?_)
    go_simp
    apply Exists.intro
    refine ⟨fun p => ?_, hK _ ?_⟩
    exact (Rab.out _).mono fun e w5 ⟨he, hb⟩ => ⟨he, p.step (Nat.le_refl _) hb⟩
    clear hK K
    repeat (
      refine wpQuiet_step (fun K hK => ?_)
      go_simp
      refine hK _ ?_
      clear hK K)
    refine wpQuiet_step (fun K hK => ?_)
    go_simp
    apply Exists.intro
    refine ⟨fun p => ?_, hK _ ?_⟩
    exact (Hab.out _).mono fun e w5 ⟨he, hb⟩ => ⟨he, p.step (Nat.le_refl _) hb⟩
    clear hK K
    repeat (
      refine wpQuiet_step (fun K hK => ?_)
      go_simp
      refine hK _ ?_
      clear hK K)
    refine wpQuiet_step (fun K hK => ?_)
    go_simp
    apply Exists.intro
    refine ⟨fun p => ?_, hK _ ?_⟩
    exact (Hab.out _).mono fun e w5 ⟨he, hb⟩ => ⟨he, p.step (Nat.le_refl _) hb⟩
    clear hK K
    repeat (
      refine wpQuiet_step (fun K hK => ?_)
      go_simp
      refine hK _ ?_
      clear hK K)
    refine wpQuiet_nil ?_
    rintro _ ⟨p, rfl⟩
    go_wp2_with fail
    go_ret
    exact ⟨rfl, hb'.trans (p.h.mono hb'.size)⟩
  · rw [ho] at Hab Rab Hba hz
    by_cases e1 : k = k'
    · subst e1
      by_cases e2 : n = n'
      · subst e2
        exact walk_gt3 k n s t w HT hd hd2 Hab Rab Hba Haa (fun e => by
          have := hz.2 ⟨rfl, rfl, by rw [ByteArray.toList_eq, ByteArray.toList_eq] at e; exact e⟩
          omega)
      · exact walk_gt2 k n s n' t w HT hd hd2 Hab Rab Hba Haa e2
    · exact walk_gt1 k n s k' n' t w HT hd hd2 Hab Rab Hba Haa e1

theorem walk (k n : Int) (s : ByteArray) (k' n' : Int) (t : ByteArray) (w : World) (_ : (Lit.int .i64 k).wf = true) (_ : (Lit.int .i64 n).wf = true) (hs : s.size ≤ maxLen) (_ : (Lit.int .i64 k').wf = true) (_ : (Lit.int .i64 n').wf = true) (ht' : t.size ≤ maxLen) (hL : laidMetH Tryd.prog Rows.valueOrdersRow.laid w) :
    Calls Tryd.prog 4 #[VV k n s, VV k' n' t] w fun e w' => e = .returned (.bool true) ∧ Below w.heap.size w w' :=
  walk_t k n s k' n' t w hs ht' (utab_of (by kernel_rfl) (by repeat (first | exact List.Mem.head _ | apply List.Mem.tail)) (by repeat (first | exact List.Mem.head _ | apply List.Mem.tail)) hL)

theorem own : ownKnob Tryd.prog.godebug = none := by kernel_rfl
theorem laidOut : laidOutB Tryd.prog = true := by kernel_rfl
theorem door_met (os : Os) (args : Array Value) : laidMetH Tryd.prog Rows.valueOrdersRow.laid ((World.doorLaid Tryd.prog 19 os).forCall (fun _ _ => 0) ⟨#[], args, []⟩).memory :=
  laidMetH_of_parts3 (fuel := 8) (laidMet_of_run' 8 (by kernel_rfl) (by kernel_rfl)) (by kernel_rfl) (by kernel_rfl)
set_option maxRecDepth 100000 in
theorem lifted (os : Os) (started : os.Started) (H : Type) (enc : TypeId × Value → H) :
    ReturnsInHanded {} Tryd.checked os 4 .any (fun w args => (Rows.valueOrdersSpec.pre enc Tryd.prog Tryd.f4 [] false w args ∧ laidMetH Tryd.prog Rows.valueOrdersRow.laid w) ∧ sizedMet enc Tryd.prog Tryd.f4 (OpenSpec.ofChange Rows.valueOrdersSpec) false w args)
      (Rows.valueOrdersSpec.post enc Tryd.prog Tryd.f4 false true false false) := by
  refine returnsInHanded_of_change_and (C := Tryd.checked) (X := fun w _ => laidMetH Tryd.prog Rows.valueOrdersRow.laid w) (fun _ _ _ hh h => h.of_heap hh) own started (by kernel_rfl) Tryd.func4
    (ChangeSpec.witness_shaped (enc := enc) (C := Tryd.checked) (os := os) (X := fun w _ => laidMetH Tryd.prog Rows.valueOrdersRow.laid w) false (World.doorLaid Tryd.prog 19 os) #[.agg #[.int .i64 0, .int .i64 0, .string ByteArray.empty], .agg #[.int .i64 0, .int .i64 0, .string ByteArray.empty]] 8 rfl (World.shaped_of_RefB (by kernel_rfl) (by kernel_rfl)) (by kernel_rfl) (by kernel_rfl) (by kernel_rfl) (door_met os _)) ?_
  intro W base args ds gs before hval0 hW hcnd _ hL _
  have hval : ∀ (j : Nat) t v, Tryd.f4.params[j]? = some t → args[j]? = some v → Value.okWide Tryd.prog W .any base t v := hval0
  have hW' := hW
  obtain ⟨p, q, hA0, hV, rfl, hfz, hnd⟩ := hW
  have hA : DataW.TrodAll enc Tryd.prog W 0 (fun _ => true) true Tryd.f4.params.toList args.toList ds p := hA0
  rw [Tryd.params4] at hA hval
  obtain ⟨v0, vs0, d0, ds0, p0, q0, hargs, rfl, rfl, h0, r0⟩ := trodAll_cons hA
  obtain ⟨v1, vs1, d1, ds1, p1, q1, rfl, rfl, rfl, h1, r1⟩ := trodAll_cons r0
  obtain ⟨rfl, rfl, rfl⟩ := trodAll_nil r1
  obtain rfl : args = #[v0, v1] := by cases args; simp_all
  obtain ⟨rfl, rfl⟩ := trodVars_none hV
  obtain ⟨a0k, a0n, a0s, rfl, rfl, rfl, w0k, w0n, w0s⟩ := openV (hval 0 23 v0 rfl rfl) h0
  obtain ⟨a1k, a1n, a1s, rfl, rfl, rfl, w1k, w1n, w1s⟩ := openV (hval 1 23 v1 rfl rfl) h1
  clear hA0 hval0
  refine (walk a0k a0n a0s a1k a1n a1s W w0k w0n w0s w1k w1n w1s hL).mono fun e W' ⟨he, bel⟩ => ?_
  subst he
  exact ⟨_, rfl, _, _, _, [], _, [], hW', trodAll_mk1 (shut_bool Tryd.underlying4 _), (trodAll_cons_mk (shutV _ _ w0k w0n w0s) (trodAll_cons_mk (shutV _ _ w1k w1n w1s) trodAll_mk0)), rfl, bel.frame _, fun h => by cases h⟩

theorem over : Rows.ValueOrdersSaid :=
  OpenClaim.holds_of_wide 4 Tryd.f4 rfl rfl rfl rfl rfl rfl rfl ⟨rfl, rfl, rfl, rfl, rfl⟩ rfl rfl rfl rfl rfl (by kernel_rfl) Tryd.func4 (by kernel_rfl)
    (of_decide_eq_true (by kernel_rfl)) (by unfold Func.isWrapper; first | (rw [if_pos (by decide +kernel)]; kernel_rfl) | (rw [if_neg (by decide +kernel)]; exact ⟨rfl, rfl⟩))
    (fun os started H enc _ => lifted os started H enc)

/-- the given statement: the card -/
theorem proved : Rows.ValueOrdersCardSaid :=
  Claim7.holds_tied_plain_at .later [] [.data, .data] true (true, "86fb4d4ad1f2a2f64c36b279aa252757f7e24e1800983a66bf99dcb451f8f800") false
    over (fun _ h => by cases h) (by kernel_rfl) (fun _ h => by cases h) valueOrders_row_tie rfl ⟨rfl, rfl⟩ (by kernel_rfl) rfl
    (fun f fn hf hfn => by
      obtain rfl : f = 4 := Option.some.inj ((show Tryd.prog.funcNamed "haulage/haulagelaw05.ValueOrders" = some 4 by kernel_rfl).symm.trans hf) |>.symm
      obtain rfl : fn = Tryd.f4 := (Option.some.inj (Tryd.func4.symm.trans hfn)).symm
      exact ⟨by kernel_rfl, fun j t ht => by
        rw [Tryd.params4] at ht
        have hm : t ∈ [23, 23] := by simpa using Array.mem_of_getElem? ht
        have hall : ([23, 23].all fun u => !Tryd.prog.wantsStandIn u) = true := by kernel_rfl
        exact (show Tryd.prog.wantsStandIn t = false by simpa using List.all_eq_true.1 hall t hm)⟩)
    (by kernel_rfl)
#print axioms proved
end Go.Proofs.YtgoefndbpfhhaaaDoor.valueOrders
