/-
  Texts that the proof needs, one behind the other: SchAllC, SchDistC, SchTabC, SchTab2C, DdlApplyC, NameSortMath, StrRows, ShSort, NameSortC, DdlNamesC, SchSameC, SchSame2C, DdlSameC, DdlRefSameC, SchFewC, DdlSameMath, DdlRPlainC, NameRefSortC.
-/
import Derived.Lib.SlicesCompact
import Derived.Laws.OwnMore
import Derived.Shelf.Slices.Clone
import Derived.Shelf.Slices.CompactS
import Derived.Shelf.SlSortCmp.NoneTotal
import Derived.Test.YtlbdbaafmdikcaaGreatDoorProg
import Derived.Lib.OwnBridge
import Derived.Test.YtlbdbaafmdikcaaGreatDoorPart1
import Derived.Test.YtlbdbaafmdikcaaGreatDoorPart2
import Derived.Test.YtlbdbaafmdikcaaGreatDoorPart3

/-
  Contracts of package schema's generic 'all' and of the function literal of 'distinct', at tables and columns.
-/
namespace Go.Proofs.YtlbdbaafmdikcaaGreatDoor
open Go.RowKit

theorem idT_any (x : Tb) (w : World) : Calls Tryz.prog 47 #[TV x] w fun e w' => e = .returned (.int .i64 x.id) ∧ Below w.heap.size w w' := by
  go_enter Tryz.func47, Tryz.ntmps47
  go_wp2_with fail
  go_ret
  exact ⟨rfl, by go_grown⟩
theorem nmT_any (x : Tb) (w : World) : Calls Tryz.prog 48 #[TV x] w fun e w' => e = .returned (.string x.nm) ∧ Below w.heap.size w w' := by
  go_enter Tryz.func48, Tryz.ntmps48
  go_wp2_with fail
  go_ret
  exact ⟨rfl, by go_grown⟩
theorem all1T_any (x : Tb) (b F : Nat) (caps : Array Value) (r : Bool) (w : World) (hc : w.cell? ⟨b, 0, none⟩ = some (.func (.func F) #[] caps))
    (hF : ∀ args w, (callFunc F args).run Tryz.prog w = .ok (.enter F args) w)
    (hcall : ∀ w', Below w.heap.size w w' → Calls Tryz.prog F (#[TV x] ++ caps) w' fun e w2 => e = .returned (.bool r) ∧ Below w'.heap.size w' w2) :
    Calls Tryz.prog 64 #[TV x, .pointer (some ⟨b, 0, none⟩)] w fun e w' => e = .returned (.bool !r) ∧ Below w.heap.size w w' := by
  have hk := keep_alloc hc
  have HC := Lib.hid hcall; clear hcall
  have hb0 := Lib.hid (below_one w (.cells (fT x).toArray 45))
  go_enter Tryz.func64, Tryz.ntmps64
  go_wp2_with fail
  refine (HC.out _ hb0.out).mono ?_
  rintro e w1 ⟨rfl, hb1⟩
  have Hb1 := Lib.hid (bthen hb0.out hb1); clear hb1
  go_wp2_with fail
  go_ret
  exact ⟨rfl, Hb1.out⟩
theorem entersAllT : ∀ args w, (callFunc 64 args).run Tryz.prog w = .ok (.enter 64 args) w := Go.Proofs.enters_of Tryz.func64 (by kernel_rfl) rfl
set_option maxRecDepth 100000 in
theorem allT_any (A : Option Addr) (cp : Nat) (l : List Tb) (F : Nat) (caps : Array Value) (p : Tb → Bool) (w : World) (hA : TabsAt w w.heap.size A l) (hl : l.length ≤ 1000000)
    (hF : ∀ args w, (callFunc F args).run Tryz.prog w = .ok (.enter F args) w)
    (hcall : ∀ x ∈ l, ∀ w', Below w.heap.size w w' → Calls Tryz.prog F (#[TV x] ++ caps) w' fun e w2 => e = .returned (.bool (p x)) ∧ Below w'.heap.size w' w2) :
    Calls Tryz.prog 44 #[.slice A l.length cp, .func (.func F) #[] caps] w fun e w' => e = .returned (.bool (l.all p)) ∧ Below w.heap.size w w' := by
  have HA := Lib.hid hA; clear hA
  have HC := Lib.hid hcall; clear hcall
  have hmf : ∀ (fn : Fn) (first cap : Array Value) (w : World), (Instr.makeFunc fn first cap).run Tryz.prog w = .ok (.func fn first cap) w := fun _ _ _ _ => rfl
  have hb0 := Lib.hid (below_one w (.cells #[.func (.func F) #[] caps] 53))
  have hc0 : Hid ((w.alloc (.cells #[.func (.func F) #[] caps] 53)).cell? ⟨w.heap.size, 0, none⟩ = some (.func (.func F) #[] caps)) := by show _ = _; simp
  go_enter Tryz.func44, Tryz.ntmps44
  go_wp2_with fail
  refine (firstT_any A cp l 64 #[.pointer (some ⟨w.heap.size, 0, none⟩)] (fun x => !p x) _ (HA.out.to hb0.out) hl entersAllT
    (fun x hx w' hb' => all1T_any x _ F caps (p x) w' ((hb'.cell (by simp)).trans hc0.out) hF (fun w2 hb2 => HC.out x hx w2 (bthen (bthen hb0.out hb') hb2)))).mono ?_
  rintro e w1 ⟨rfl, hb1⟩
  have Hb1 := Lib.hid (bthen hb0.out hb1); clear hb1
  have Haf := Lib.hid (all_find p l)
  obtain ⟨i, b, hfi, hbb⟩ : ∃ (i : Int) (b : Bool), fstV (l.findIdx? fun x => !p x) = .tuple #[.int .i64 i, .bool b] ∧ (l.findIdx? fun x => !p x).isSome = b := ⟨_, _, rfl, rfl⟩
  have Hbb : Hid (l.all p = !b) := by show _ = _; rw [← hbb, Haf.out]; simp
  rw [hfi]; clear hfi hbb
  go_wp2_with fail
  go_ret
  exact ⟨by rw [Hbb.out]; rfl, Hb1.out⟩
set_option maxRecDepth 100000 in
theorem dist1T_any (y x : Tb) (b b2 : Nat) (w : World) (hc : w.cell? ⟨b, 0, none⟩ = some (.func (.func 48) #[] #[])) (hx : BlkN w b2 (fT x)) :
    Calls Tryz.prog 68 #[TV y, .pointer (some ⟨b, 0, none⟩), .pointer (some ⟨b2, 0, none⟩)] w fun e w' => e = .returned (.bool (eqS y.nm x.nm)) ∧ Below w.heap.size w w' := by
  have hb0 := Lib.hid (below_one w (.cells (fT y).toArray 45))
  have hb2 : b2 < w.heap.size := World.block_lt_of_cell? w ⟨b2, 0, none⟩ (hx 0 _ rfl)
  have hb1 : b < w.heap.size := World.block_lt_of_cell? w ⟨b, 0, none⟩ hc
  have HX := Lib.hid (hx.alloc hb2 (.cells (fT y).toArray 45))
  have HY := Lib.hid (BlkN.new w _ (fT y) 45 rfl)
  have HN := Lib.hid (keep_alloc hc (.cells (fT y).toArray 45))
  clear hc hx
  have HC := Lib.hid (fun w => nmT_any y w)
  have HD := Lib.hid (fun w => nmT_any x w)
  obtain ⟨w0, hw0⟩ : ∃ w0, w0 = w.alloc (.cells (fT y).toArray 45) := ⟨_, rfl⟩
  have Hw0 : Hid (w.alloc (.cells #[.int .i64 y.id, .string y.nm, .int .i64 y.key, .int .i64 y.nx, .slice y.A y.cols.length y.cap] 45) = w0) := hw0.symm
  have hs0 : w0.heap.size = w.heap.size + 1 := by rw [hw0]; simp
  rw [← hw0] at HX HY HN hb0
  have hne : Nonempty (BelowBy w0.heap.size w0) := ⟨⟨w0, Below.refl _ _⟩⟩
  have N0 : ∀ p : BelowBy w0.heap.size w0, p.x.cell? ⟨b, 0, none⟩ = some (.func (.func 48) #[] #[]) := fun p => (p.h.cell (by simp; omega)).trans HN.out
  have X0 : ∀ p : BelowBy w0.heap.size w0, p.x.cell? ⟨b2, 0, none⟩ = some (.int .i64 x.id) := fun p => (p.h.cell (by simp; omega)).trans (HX.out 0 _ rfl)
  have X1 : ∀ p : BelowBy w0.heap.size w0, p.x.cell? ⟨b2, 1, none⟩ = some (.string x.nm) := fun p => (p.h.cell (by simp; omega)).trans (HX.out 1 _ rfl)
  have X2 : ∀ p : BelowBy w0.heap.size w0, p.x.cell? ⟨b2, 2, none⟩ = some (.int .i64 x.key) := fun p => (p.h.cell (by simp; omega)).trans (HX.out 2 _ rfl)
  have X3 : ∀ p : BelowBy w0.heap.size w0, p.x.cell? ⟨b2, 3, none⟩ = some (.int .i64 x.nx) := fun p => (p.h.cell (by simp; omega)).trans (HX.out 3 _ rfl)
  have X4 : ∀ p : BelowBy w0.heap.size w0, p.x.cell? ⟨b2, 4, none⟩ = some (.slice x.A x.cols.length x.cap) := fun p => (p.h.cell (by simp; omega)).trans (HX.out 4 _ rfl)
  have Y0 : ∀ p : BelowBy w0.heap.size w0, p.x.cell? ⟨w.heap.size, 0, none⟩ = some (.int .i64 y.id) := fun p => (p.h.cell (by simp; omega)).trans (HY.out 0 _ rfl)
  have Y1 : ∀ p : BelowBy w0.heap.size w0, p.x.cell? ⟨w.heap.size, 1, none⟩ = some (.string y.nm) := fun p => (p.h.cell (by simp; omega)).trans (HY.out 1 _ rfl)
  have Y2 : ∀ p : BelowBy w0.heap.size w0, p.x.cell? ⟨w.heap.size, 2, none⟩ = some (.int .i64 y.key) := fun p => (p.h.cell (by simp; omega)).trans (HY.out 2 _ rfl)
  have Y3 : ∀ p : BelowBy w0.heap.size w0, p.x.cell? ⟨w.heap.size, 3, none⟩ = some (.int .i64 y.nx) := fun p => (p.h.cell (by simp; omega)).trans (HY.out 3 _ rfl)
  have Y4 : ∀ p : BelowBy w0.heap.size w0, p.x.cell? ⟨w.heap.size, 4, none⟩ = some (.slice y.A y.cols.length y.cap) := fun p => (p.h.cell (by simp; omega)).trans (HY.out 4 _ rfl)
  clear hw0 hs0
  go_enter Tryz.func68, Tryz.ntmps68
  go_wp2_with fail
  rw [Hw0.out]
  refine wp_region_below w0.heap.size (by kernel_rfl) (by kernel_rfl) ?_
  repeat (
    with_reducible refine wpQuiet_step (fun K hK => ?_)
    go_simp
    refine hK _ ?_
    clear hK K)
  with_reducible refine wpQuiet_step (fun K hK => ?_)
  go_simp
  apply Exists.intro
  refine ⟨fun p => ?_, hK _ ?_⟩
  exact (HC.out _).mono fun e w5 ⟨he, hb⟩ => ⟨he, p.step (Nat.le_refl _) hb⟩
  clear hK K
  repeat (
    with_reducible refine wpQuiet_step (fun K hK => ?_)
    go_simp
    refine hK _ ?_
    clear hK K)
  with_reducible refine wpQuiet_step (fun K hK => ?_)
  go_simp
  apply Exists.intro
  refine ⟨fun p => ?_, hK _ ?_⟩
  exact (HD.out _).mono fun e w5 ⟨he, hb⟩ => ⟨he, p.step (Nat.le_refl _) hb⟩
  clear hK K
  repeat (
    with_reducible refine wpQuiet_step (fun K hK => ?_)
    go_simp
    refine hK _ ?_
    clear hK K)
  refine wpQuiet_nil ?_
  rintro _ ⟨p, rfl⟩
  go_wp2_with fail
  go_ret
  exact ⟨rfl, bthen hb0.out p.h⟩

theorem idC_any (x : Cb) (w : World) : Calls Tryz.prog 100 #[CV x] w fun e w' => e = .returned (.int .i64 x.id) ∧ Below w.heap.size w w' := by
  go_enter Tryz.func100, Tryz.ntmps100
  go_wp2_with fail
  go_ret
  exact ⟨rfl, by go_grown⟩
theorem nmC_any (x : Cb) (w : World) : Calls Tryz.prog 101 #[CV x] w fun e w' => e = .returned (.string x.nm) ∧ Below w.heap.size w w' := by
  go_enter Tryz.func101, Tryz.ntmps101
  go_wp2_with fail
  go_ret
  exact ⟨rfl, by go_grown⟩
theorem all1C_any (x : Cb) (b F : Nat) (caps : Array Value) (r : Bool) (w : World) (hc : w.cell? ⟨b, 0, none⟩ = some (.func (.func F) #[] caps))
    (hF : ∀ args w, (callFunc F args).run Tryz.prog w = .ok (.enter F args) w)
    (hcall : ∀ w', Below w.heap.size w w' → Calls Tryz.prog F (#[CV x] ++ caps) w' fun e w2 => e = .returned (.bool r) ∧ Below w'.heap.size w' w2) :
    Calls Tryz.prog 123 #[CV x, .pointer (some ⟨b, 0, none⟩)] w fun e w' => e = .returned (.bool !r) ∧ Below w.heap.size w w' := by
  have hk := keep_alloc hc
  have HC := Lib.hid hcall; clear hcall
  have hb0 := Lib.hid (below_one w (.cells (fC x).toArray 59))
  go_enter Tryz.func123, Tryz.ntmps123
  go_wp2_with fail
  refine (HC.out _ hb0.out).mono ?_
  rintro e w1 ⟨rfl, hb1⟩
  have Hb1 := Lib.hid (bthen hb0.out hb1); clear hb1
  go_wp2_with fail
  go_ret
  exact ⟨rfl, Hb1.out⟩
theorem entersAllC : ∀ args w, (callFunc 123 args).run Tryz.prog w = .ok (.enter 123 args) w := Go.Proofs.enters_of Tryz.func123 (by kernel_rfl) rfl
set_option maxRecDepth 100000 in
theorem allC_any (A : Option Addr) (cp : Nat) (l : List Cb) (F : Nat) (caps : Array Value) (p : Cb → Bool) (w : World) (hA : ColsAt w w.heap.size A l) (hl : l.length ≤ 1000000)
    (hF : ∀ args w, (callFunc F args).run Tryz.prog w = .ok (.enter F args) w)
    (hcall : ∀ x ∈ l, ∀ w', Below w.heap.size w w' → Calls Tryz.prog F (#[CV x] ++ caps) w' fun e w2 => e = .returned (.bool (p x)) ∧ Below w'.heap.size w' w2) :
    Calls Tryz.prog 96 #[.slice A l.length cp, .func (.func F) #[] caps] w fun e w' => e = .returned (.bool (l.all p)) ∧ Below w.heap.size w w' := by
  have HA := Lib.hid hA; clear hA
  have HC := Lib.hid hcall; clear hcall
  have hmf : ∀ (fn : Fn) (first cap : Array Value) (w : World), (Instr.makeFunc fn first cap).run Tryz.prog w = .ok (.func fn first cap) w := fun _ _ _ _ => rfl
  have hb0 := Lib.hid (below_one w (.cells #[.func (.func F) #[] caps] 70))
  have hc0 : Hid ((w.alloc (.cells #[.func (.func F) #[] caps] 70)).cell? ⟨w.heap.size, 0, none⟩ = some (.func (.func F) #[] caps)) := by show _ = _; simp
  go_enter Tryz.func96, Tryz.ntmps96
  go_wp2_with fail
  refine (firstC_any A cp l 123 #[.pointer (some ⟨w.heap.size, 0, none⟩)] (fun x => !p x) _ (RowAt.to HA.out hb0.out) hl entersAllC
    (fun x hx w' hb' => all1C_any x _ F caps (p x) w' ((hb'.cell (by simp)).trans hc0.out) hF (fun w2 hb2 => HC.out x hx w2 (bthen (bthen hb0.out hb') hb2)))).mono ?_
  rintro e w1 ⟨rfl, hb1⟩
  have Hb1 := Lib.hid (bthen hb0.out hb1); clear hb1
  have Haf := Lib.hid (all_find p l)
  obtain ⟨i, b, hfi, hbb⟩ : ∃ (i : Int) (b : Bool), fstV (l.findIdx? fun x => !p x) = .tuple #[.int .i64 i, .bool b] ∧ (l.findIdx? fun x => !p x).isSome = b := ⟨_, _, rfl, rfl⟩
  have Hbb : Hid (l.all p = !b) := by show _ = _; rw [← hbb, Haf.out]; simp
  rw [hfi]; clear hfi hbb
  go_wp2_with fail
  go_ret
  exact ⟨by rw [Hbb.out]; rfl, Hb1.out⟩
set_option maxRecDepth 100000 in
theorem dist1C_any (y x : Cb) (b b2 : Nat) (w : World) (hc : w.cell? ⟨b, 0, none⟩ = some (.func (.func 101) #[] #[])) (hx : BlkN w b2 (fC x)) :
    Calls Tryz.prog 126 #[CV y, .pointer (some ⟨b, 0, none⟩), .pointer (some ⟨b2, 0, none⟩)] w fun e w' => e = .returned (.bool (eqS y.nm x.nm)) ∧ Below w.heap.size w w' := by
  have hb0 := Lib.hid (below_one w (.cells (fC y).toArray 59))
  have hb2 : b2 < w.heap.size := World.block_lt_of_cell? w ⟨b2, 0, none⟩ (hx 0 _ rfl)
  have hb1 : b < w.heap.size := World.block_lt_of_cell? w ⟨b, 0, none⟩ hc
  have HX := Lib.hid (hx.alloc hb2 (.cells (fC y).toArray 59))
  have HY := Lib.hid (BlkN.new w _ (fC y) 59 rfl)
  have HN := Lib.hid (keep_alloc hc (.cells (fC y).toArray 59))
  clear hc hx
  have HC := Lib.hid (fun w => nmC_any y w)
  have HD := Lib.hid (fun w => nmC_any x w)
  obtain ⟨w0, hw0⟩ : ∃ w0, w0 = w.alloc (.cells (fC y).toArray 59) := ⟨_, rfl⟩
  have Hw0 : Hid (w.alloc (.cells #[.int .i64 y.id, .string y.nm, .int .i64 y.tk, .int .i64 y.tm, .bool y.nl, .int .i64 y.dk, .int .i64 y.dn, .string y.ds] 59) = w0) := hw0.symm
  have hs0 : w0.heap.size = w.heap.size + 1 := by rw [hw0]; simp
  rw [← hw0] at HX HY HN hb0
  have hne : Nonempty (BelowBy w0.heap.size w0) := ⟨⟨w0, Below.refl _ _⟩⟩
  have N0 : ∀ p : BelowBy w0.heap.size w0, p.x.cell? ⟨b, 0, none⟩ = some (.func (.func 101) #[] #[]) := fun p => (p.h.cell (by simp; omega)).trans HN.out
  have X0 : ∀ p : BelowBy w0.heap.size w0, p.x.cell? ⟨b2, 0, none⟩ = some (.int .i64 x.id) := fun p => (p.h.cell (by simp; omega)).trans (HX.out 0 _ rfl)
  have X1 : ∀ p : BelowBy w0.heap.size w0, p.x.cell? ⟨b2, 1, none⟩ = some (.string x.nm) := fun p => (p.h.cell (by simp; omega)).trans (HX.out 1 _ rfl)
  have X2 : ∀ p : BelowBy w0.heap.size w0, p.x.cell? ⟨b2, 2, none⟩ = some (.int .i64 x.tk) := fun p => (p.h.cell (by simp; omega)).trans (HX.out 2 _ rfl)
  have X3 : ∀ p : BelowBy w0.heap.size w0, p.x.cell? ⟨b2, 3, none⟩ = some (.int .i64 x.tm) := fun p => (p.h.cell (by simp; omega)).trans (HX.out 3 _ rfl)
  have X4 : ∀ p : BelowBy w0.heap.size w0, p.x.cell? ⟨b2, 4, none⟩ = some (.bool x.nl) := fun p => (p.h.cell (by simp; omega)).trans (HX.out 4 _ rfl)
  have X5 : ∀ p : BelowBy w0.heap.size w0, p.x.cell? ⟨b2, 5, none⟩ = some (.int .i64 x.dk) := fun p => (p.h.cell (by simp; omega)).trans (HX.out 5 _ rfl)
  have X6 : ∀ p : BelowBy w0.heap.size w0, p.x.cell? ⟨b2, 6, none⟩ = some (.int .i64 x.dn) := fun p => (p.h.cell (by simp; omega)).trans (HX.out 6 _ rfl)
  have X7 : ∀ p : BelowBy w0.heap.size w0, p.x.cell? ⟨b2, 7, none⟩ = some (.string x.ds) := fun p => (p.h.cell (by simp; omega)).trans (HX.out 7 _ rfl)
  have Y0 : ∀ p : BelowBy w0.heap.size w0, p.x.cell? ⟨w.heap.size, 0, none⟩ = some (.int .i64 y.id) := fun p => (p.h.cell (by simp; omega)).trans (HY.out 0 _ rfl)
  have Y1 : ∀ p : BelowBy w0.heap.size w0, p.x.cell? ⟨w.heap.size, 1, none⟩ = some (.string y.nm) := fun p => (p.h.cell (by simp; omega)).trans (HY.out 1 _ rfl)
  have Y2 : ∀ p : BelowBy w0.heap.size w0, p.x.cell? ⟨w.heap.size, 2, none⟩ = some (.int .i64 y.tk) := fun p => (p.h.cell (by simp; omega)).trans (HY.out 2 _ rfl)
  have Y3 : ∀ p : BelowBy w0.heap.size w0, p.x.cell? ⟨w.heap.size, 3, none⟩ = some (.int .i64 y.tm) := fun p => (p.h.cell (by simp; omega)).trans (HY.out 3 _ rfl)
  have Y4 : ∀ p : BelowBy w0.heap.size w0, p.x.cell? ⟨w.heap.size, 4, none⟩ = some (.bool y.nl) := fun p => (p.h.cell (by simp; omega)).trans (HY.out 4 _ rfl)
  have Y5 : ∀ p : BelowBy w0.heap.size w0, p.x.cell? ⟨w.heap.size, 5, none⟩ = some (.int .i64 y.dk) := fun p => (p.h.cell (by simp; omega)).trans (HY.out 5 _ rfl)
  have Y6 : ∀ p : BelowBy w0.heap.size w0, p.x.cell? ⟨w.heap.size, 6, none⟩ = some (.int .i64 y.dn) := fun p => (p.h.cell (by simp; omega)).trans (HY.out 6 _ rfl)
  have Y7 : ∀ p : BelowBy w0.heap.size w0, p.x.cell? ⟨w.heap.size, 7, none⟩ = some (.string y.ds) := fun p => (p.h.cell (by simp; omega)).trans (HY.out 7 _ rfl)
  clear hw0 hs0
  go_enter Tryz.func126, Tryz.ntmps126
  go_wp2_with fail
  rw [Hw0.out]
  refine wp_region_below w0.heap.size (by kernel_rfl) (by kernel_rfl) ?_
  repeat (
    with_reducible refine wpQuiet_step (fun K hK => ?_)
    go_simp
    refine hK _ ?_
    clear hK K)
  with_reducible refine wpQuiet_step (fun K hK => ?_)
  go_simp
  apply Exists.intro
  refine ⟨fun p => ?_, hK _ ?_⟩
  exact (HC.out _).mono fun e w5 ⟨he, hb⟩ => ⟨he, p.step (Nat.le_refl _) hb⟩
  clear hK K
  repeat (
    with_reducible refine wpQuiet_step (fun K hK => ?_)
    go_simp
    refine hK _ ?_
    clear hK K)
  with_reducible refine wpQuiet_step (fun K hK => ?_)
  go_simp
  apply Exists.intro
  refine ⟨fun p => ?_, hK _ ?_⟩
  exact (HD.out _).mono fun e w5 ⟨he, hb⟩ => ⟨he, p.step (Nat.le_refl _) hb⟩
  clear hK K
  repeat (
    with_reducible refine wpQuiet_step (fun K hK => ?_)
    go_simp
    refine hK _ ?_
    clear hK K)
  refine wpQuiet_nil ?_
  rintro _ ⟨p, rfl⟩
  go_wp2_with fail
  go_ret
  exact ⟨rfl, bthen hb0.out p.h⟩

end Go.Proofs.YtlbdbaafmdikcaaGreatDoor

/-
  Contract of package schema's generic 'distinct', at tables and columns.
-/
namespace Go.Proofs.YtlbdbaafmdikcaaGreatDoor
open Go.RowKit

theorem dist_more {α : Type} {idf : α → Int} {nmf : α → ByteArray} {l : List α} {k : Nat} {x : α} (h : ∀ j, j < k → OkAt idf nmf l j) (hx : l[k]? = some x) (h1 : ∀ y, 0 < k → l[k - 1]? = some y → idf y < idf x)
    (h2 : ((l.take k).findIdx? fun y => eqS (nmf y) (nmf x)) = none) : ∀ j, j < k + 1 → OkAt idf nmf l j := fun j hj => by
  by_cases e : j = k
  · subst e
    intro z hz
    rw [hx] at hz; cases hz
    refine ⟨h1, fun i y hi hy e => ?_⟩
    rw [List.findIdx?_eq_none_iff] at h2
    have := h2 y (List.mem_of_getElem? (i := i) (by rw [List.getElem?_take]; simp [hi, hy]))
    rw [eqS_iff.2 e] at this; cases this
  · exact h j (by omega)
theorem dist_name {α : Type} {idf : α → Int} {nmf : α → ByteArray} {l : List α} {k q : Nat} {x : α} (hx : l[k]? = some x) (h2 : ((l.take k).findIdx? fun y => eqS (nmf y) (nmf x)) = some q) : ¬ Dist idf nmf l := fun h => by
  obtain ⟨y, h3, h4, _⟩ := find_some h2
  rw [List.getElem?_take] at h3
  split at h3
  · exact (h k (List.getElem?_eq_some_iff.1 hx).1 x hx).2 q y (by assumption) h3 (eqS_iff.1 h4)
  · cases h3
theorem dist_id {α : Type} {idf : α → Int} {nmf : α → ByteArray} {l : List α} {j : Nat} {x y : α} (hx : l[j + 1]? = some x) (hy : l[j]? = some y) (h2 : idf x ≤ idf y) : ¬ Dist idf nmf l := fun h => by
  have := (h (j + 1) (List.getElem?_eq_some_iff.1 hx).1 x hx).1 y (by omega) (by simpa using hy)
  omega
theorem entersDistT : ∀ args w, (callFunc 68 args).run Tryz.prog w = .ok (.enter 68 args) w := Go.Proofs.enters_of Tryz.func68 (by kernel_rfl) rfl
set_option maxRecDepth 100000 in
set_option maxHeartbeats 1600000 in
theorem distT_any (A : Option Addr) (cp : Nat) (l : List Tb) (w : World) (hA : TabsAt w w.heap.size A l) (hl : l.length ≤ 1000000) (hcp : l.length ≤ cp) :
    Calls Tryz.prog 46 #[.slice A l.length cp, .func (.func 47) #[] #[], .func (.func 48) #[] #[]] w fun e w' => e = .returned (.bool (tf (Dist Tb.id Tb.nm l))) ∧ Below w.heap.size w w' := by
  have HA := Lib.hid hA; clear hA
  have hmf : ∀ (fn : Fn) (first cap : Array Value) (w : World), (Instr.makeFunc fn first cap).run Tryz.prog w = .ok (.func fn first cap) w := fun _ _ _ _ => rfl
  have hb0 := Lib.hid (below_one w (.cells #[.func (.func 48) #[] #[]] 75))
  have hc0 : Hid ((w.alloc (.cells #[.func (.func 48) #[] #[]] 75)).cell? ⟨w.heap.size, 0, none⟩ = some (.func (.func 48) #[] #[])) := by show _ = _; simp
  have hs0 : Hid ((w.alloc (.cells #[.func (.func 48) #[] #[]] 75)).heap.size = w.heap.size + 1) := by show _ = _; simp
  go_enter Tryz.func46, Tryz.ntmps46
  go_wp2_with fail
  obtain ⟨w0, hw0⟩ : ∃ w0, w.alloc (.cells #[.func (.func 48) #[] #[]] 75) = w0 := ⟨_, rfl⟩
  rw [hw0] at hb0 hc0 hs0 ⊢
  clear hw0
  go_loopw [14] (fun i wr => ∃ k : Nat, k ≤ l.length ∧ i = .int .i64 k ∧ Hid (∀ j, j < k → OkAt Tb.id Tb.nm l j) ∧ Hid (Below w0.heap.size w0 wr)) (fun i _ => l.length - (intOf i).toNat)
  case atStart => exact ⟨0, by omega, rfl, fun j h => absurd h (by omega), Below.refl _ _⟩
  case round =>
    obtain ⟨k, hk, rfl, hall, hb⟩ := hrel
    have Hbw := Lib.hid (bthen hb0.out hb.out)
    have Hsz2 := Lib.hid hb.out.size
    by_cases hlt : k < l.length
    · obtain ⟨x, hx⟩ : ∃ x, l[k]? = some x := ⟨l[k], by simp [hlt]⟩
      have Hx := Lib.hid hx
      obtain ⟨b, off, rfl, hbB, c0, c1, c2, c3, c4⟩ := (HA.out.below Hbw.out).get k x hx
      clear hx
      obtain ⟨w1, hw1⟩ : ∃ w1, wr.alloc (.cells (fT x).toArray 45) = w1 := ⟨_, rfl⟩
      have Hw1 : Hid (wr.alloc (.cells #[.int .i64 x.id, .string x.nm, .int .i64 x.key, .int .i64 x.nx, .slice x.A x.cols.length x.cap] 45) = w1) := hw1
      have Hb1' : Hid (Below wr.heap.size wr w1) := by show Below _ _ _; rw [← hw1]; exact below_one wr _
      have Hb1 := Lib.hid (bthen Hbw.out Hb1'.out)
      have HX : Hid (BlkN w1 wr.heap.size (fT x)) := by show BlkN _ _ _; rw [← hw1]; exact BlkN.new wr _ (fT x) _ rfl
      have Hs1 : Hid (w1.heap.size = wr.heap.size + 1) := by show _ = _; rw [← hw1]; simp
      have HN1 : Hid (w1.cell? ⟨w.heap.size, 0, none⟩ = some (.func (.func 48) #[] #[])) := (Hb1'.out.cell (show w.heap.size < wr.heap.size by have := hs0.out; have := Hsz2.out; omega)).trans ((hb.out.cell (show w.heap.size < w0.heap.size by have := hs0.out; omega)).trans hc0.out)
      clear hw1
      have hlk : (l.take k).length = k := by rw [List.length_take]; omega
      have HF1 : Hid (∀ w', Below w1.heap.size w1 w' → Calls Tryz.prog 63 #[.slice (some ⟨b, off, none⟩) k cp, .func (.func 68) #[] #[.pointer (some ⟨w.heap.size, 0, none⟩), .pointer (some ⟨wr.heap.size, 0, none⟩)]] w' fun e w2 => e = .returned (fstV ((l.take k).findIdx? fun y => eqS y.nm x.nm)) ∧ Below w'.heap.size w' w2) := fun w' hb' => by
        have := firstT_any (some ⟨b, off, none⟩) cp (l.take k) 68 #[.pointer (some ⟨w.heap.size, 0, none⟩), .pointer (some ⟨wr.heap.size, 0, none⟩)] (fun y => eqS y.nm x.nm) w' (((HA.out.to (bthen Hb1.out hb')).take k)) (by omega) entersDistT (fun y _ w2 hb2 =>
          dist1T_any y x _ _ w2 (((bthen hb' hb2).cell (show w.heap.size < w1.heap.size by have := hs0.out; have := Hsz2.out; have := Hs1.out; omega)).trans HN1.out) (HX.out.below (bthen hb' hb2) (by have := Hs1.out; omega)))
        rwa [hlk] at this
      clear hlk
      have hne : Nonempty (BelowBy w1.heap.size w1) := ⟨⟨w1, Below.refl _ _⟩⟩
      have X0 : ∀ p : BelowBy w1.heap.size w1, p.x.cell? ⟨wr.heap.size, 0, none⟩ = some (.int .i64 x.id) := fun p => (p.h.cell (by have := Hs1.out; simp; omega)).trans (HX.out 0 _ rfl)
      have X1 : ∀ p : BelowBy w1.heap.size w1, p.x.cell? ⟨wr.heap.size, 1, none⟩ = some (.string x.nm) := fun p => (p.h.cell (by have := Hs1.out; simp; omega)).trans (HX.out 1 _ rfl)
      have X2 : ∀ p : BelowBy w1.heap.size w1, p.x.cell? ⟨wr.heap.size, 2, none⟩ = some (.int .i64 x.key) := fun p => (p.h.cell (by have := Hs1.out; simp; omega)).trans (HX.out 2 _ rfl)
      have X3 : ∀ p : BelowBy w1.heap.size w1, p.x.cell? ⟨wr.heap.size, 3, none⟩ = some (.int .i64 x.nx) := fun p => (p.h.cell (by have := Hs1.out; simp; omega)).trans (HX.out 3 _ rfl)
      have X4 : ∀ p : BelowBy w1.heap.size w1, p.x.cell? ⟨wr.heap.size, 4, none⟩ = some (.slice x.A x.cols.length x.cap) := fun p => (p.h.cell (by have := Hs1.out; simp; omega)).trans (HX.out 4 _ rfl)
      by_cases hk0 : k = 0
      · subst hk0
        simp only [Nat.zero_mul, Nat.add_zero] at c0 c1 c2 c3 c4
        cases ho : (l.take 0).findIdx? fun y => eqS y.nm x.nm with
        | none =>
          have Ho : Hid (fstV ((l.take 0).findIdx? fun y => eqS y.nm x.nm) = .tuple #[.int .i64 0, .bool false]) := by show _ = _; rw [ho]; rfl
          have Hall : Hid (∀ i, i < 0 + 1 → OkAt Tb.id Tb.nm l i) := dist_more hall.out Hx.out (fun y h _ => absurd h (by omega)) ho
          clear ho
          go_wp2_with fail
          rw [Hw1.out]
          refine wp_region_below w1.heap.size (by kernel_rfl) (by kernel_rfl) ?_
          repeat (
            with_reducible refine wpQuiet_step (fun K hK => ?_)
            go_simp
            refine hK _ ?_
            clear hK K)
          refine wpQuiet_nil ?_
          rintro _ ⟨p, rfl⟩
          go_wp2_with fail
          refine (HF1.out p.x p.h).mono ?_
          rintro e w2 ⟨rfl, hb2⟩
          have Hb2 := Lib.hid (bthen (bthen Hb1.out p.h) hb2)
          have Hb3 := Lib.hid (bthen (bthen (bthen hb.out Hb1'.out) p.h) hb2); clear hb2
          rw [Ho.out]
          go_wp2_with fail
          go_roundw
          case rel => exact ⟨0 + 1, by omega, by go_num, Hall.out, Hb3.out⟩
          case measure => simp [intOf]; omega
        | some q =>
          have Ho : Hid (fstV ((l.take 0).findIdx? fun y => eqS y.nm x.nm) = .tuple #[.int .i64 (q : Int), .bool true]) := by show _ = _; rw [ho]; rfl
          have Hno : Hid (tf (Dist Tb.id Tb.nm l) = false) := tf_no (dist_name Hx.out ho)
          clear ho
          go_wp2_with fail
          rw [Hw1.out]
          refine wp_region_below w1.heap.size (by kernel_rfl) (by kernel_rfl) ?_
          repeat (
            with_reducible refine wpQuiet_step (fun K hK => ?_)
            go_simp
            refine hK _ ?_
            clear hK K)
          refine wpQuiet_nil ?_
          rintro _ ⟨p, rfl⟩
          go_wp2_with fail
          refine (HF1.out p.x p.h).mono ?_
          rintro e w2 ⟨rfl, hb2⟩
          have Hb2 := Lib.hid (bthen (bthen Hb1.out p.h) hb2)
          have Hb3 := Lib.hid (bthen (bthen (bthen hb.out Hb1'.out) p.h) hb2); clear hb2
          rw [Ho.out]
          go_wp2_with fail
          go_ret
          exact ⟨by rw [Hno.out]; rfl, Hb2.out⟩
      · obtain ⟨j, rfl⟩ : ∃ j, k = j + 1 := ⟨k - 1, by omega⟩
        clear hk0
        obtain ⟨y, hy⟩ : ∃ y, l[j]? = some y := ⟨l[j]'(by omega), by simp [show j < l.length by omega]⟩
        have Hy := Lib.hid hy
        obtain ⟨b', off', e', _, y0, y1, y2, y3, y4⟩ := (HA.out.below Hbw.out).get j y hy
        cases e'
        clear hy
        have Y0 : ∀ p : BelowBy w1.heap.size w1, p.x.cell? ⟨b, off + j * 5, none⟩ = some (.int .i64 y.id) := fun p => (p.h.cell (by have := Hs1.out; have := Hbw.out.size; simp; omega)).trans ((Hb1'.out.cell (by have := Hbw.out.size; simp; omega)).trans y0)
        have Y1 : ∀ p : BelowBy w1.heap.size w1, p.x.cell? ⟨b, off + j * 5 + 1, none⟩ = some (.string y.nm) := fun p => (p.h.cell (by have := Hs1.out; have := Hbw.out.size; simp; omega)).trans ((Hb1'.out.cell (by have := Hbw.out.size; simp; omega)).trans y1)
        have Y2 : ∀ p : BelowBy w1.heap.size w1, p.x.cell? ⟨b, off + j * 5 + 2, none⟩ = some (.int .i64 y.key) := fun p => (p.h.cell (by have := Hs1.out; have := Hbw.out.size; simp; omega)).trans ((Hb1'.out.cell (by have := Hbw.out.size; simp; omega)).trans y2)
        have Y3 : ∀ p : BelowBy w1.heap.size w1, p.x.cell? ⟨b, off + j * 5 + 3, none⟩ = some (.int .i64 y.nx) := fun p => (p.h.cell (by have := Hs1.out; have := Hbw.out.size; simp; omega)).trans ((Hb1'.out.cell (by have := Hbw.out.size; simp; omega)).trans y3)
        have Y4 : ∀ p : BelowBy w1.heap.size w1, p.x.cell? ⟨b, off + j * 5 + 4, none⟩ = some (.slice y.A y.cols.length y.cap) := fun p => (p.h.cell (by have := Hs1.out; have := Hbw.out.size; simp; omega)).trans ((Hb1'.out.cell (by have := Hbw.out.size; simp; omega)).trans y4)
        clear y0 y1 y2 y3 y4
        have hwj : IntKind.i64.wrap (j : Int) = (j : Int) := by rw [IntKind.wrap_i64]; omega
        have hj0 : (0 : Int) ≤ (j : Int) := by omega
        have hjl : (j : Int) < (l.length : Int) := by omega
        have HI := Lib.hid (fun w => idT_any y w)
        have HJ := Lib.hid (fun w => idT_any x w)
        cases hd : decide (x.id ≤ y.id)
        · have Hlt : Hid (y.id < x.id) := by have h := of_decide_eq_false hd; show _ < _; omega
          have Hok : Hid (∀ z, 0 < j + 1 → l[j + 1 - 1]? = some z → z.id < x.id) := fun z _ hz => by
            rw [show j + 1 - 1 = j by omega, Hy.out] at hz
            cases hz
            exact Hlt.out
          
          cases ho : (l.take (j + 1)).findIdx? fun y => eqS y.nm x.nm with
          | none =>
            have Ho : Hid (fstV ((l.take (j + 1)).findIdx? fun y => eqS y.nm x.nm) = .tuple #[.int .i64 0, .bool false]) := by show _ = _; rw [ho]; rfl
            have Hall : Hid (∀ i, i < j + 1 + 1 → OkAt Tb.id Tb.nm l i) := dist_more hall.out Hx.out Hok.out ho
            clear ho
            go_wp2_with fail
            rw [Hw1.out]
            refine wp_region_below w1.heap.size (by kernel_rfl) (by kernel_rfl) ?_
            repeat (
              with_reducible refine wpQuiet_step (fun K hK => ?_)
              go_simp
              refine hK _ ?_
              clear hK K)
            with_reducible refine wpQuiet_step (fun K hK => ?_)
            go_simp
            apply Exists.intro
            refine ⟨fun p => ?_, hK _ ?_⟩
            exact (HI.out _).mono fun e w5 ⟨he, hb⟩ => ⟨he, p.step (Nat.le_refl _) hb⟩
            clear hK K
            repeat (
              with_reducible refine wpQuiet_step (fun K hK => ?_)
              go_simp
              refine hK _ ?_
              clear hK K)
            with_reducible refine wpQuiet_step (fun K hK => ?_)
            go_simp
            apply Exists.intro
            refine ⟨fun p => ?_, hK _ ?_⟩
            exact (HJ.out _).mono fun e w5 ⟨he, hb⟩ => ⟨he, p.step (Nat.le_refl _) hb⟩
            clear hK K
            repeat (
              with_reducible refine wpQuiet_step (fun K hK => ?_)
              go_simp
              refine hK _ ?_
              clear hK K)
            refine wpQuiet_nil ?_
            rintro _ ⟨p, rfl⟩
            go_wp2_with fail
            refine (HF1.out p.x p.h).mono ?_
            rintro e w2 ⟨rfl, hb2⟩
            have Hb2 := Lib.hid (bthen (bthen Hb1.out p.h) hb2)
            have Hb3 := Lib.hid (bthen (bthen (bthen hb.out Hb1'.out) p.h) hb2); clear hb2
            rw [Ho.out]
            go_wp2_with fail
            go_roundw
            case rel => exact ⟨j + 1 + 1, by omega, by go_num, Hall.out, Hb3.out⟩
            case measure => simp [intOf]; omega
          | some q =>
            have Ho : Hid (fstV ((l.take (j + 1)).findIdx? fun y => eqS y.nm x.nm) = .tuple #[.int .i64 (q : Int), .bool true]) := by show _ = _; rw [ho]; rfl
            have Hno : Hid (tf (Dist Tb.id Tb.nm l) = false) := tf_no (dist_name Hx.out ho)
            clear ho
            go_wp2_with fail
            rw [Hw1.out]
            refine wp_region_below w1.heap.size (by kernel_rfl) (by kernel_rfl) ?_
            repeat (
              with_reducible refine wpQuiet_step (fun K hK => ?_)
              go_simp
              refine hK _ ?_
              clear hK K)
            with_reducible refine wpQuiet_step (fun K hK => ?_)
            go_simp
            apply Exists.intro
            refine ⟨fun p => ?_, hK _ ?_⟩
            exact (HI.out _).mono fun e w5 ⟨he, hb⟩ => ⟨he, p.step (Nat.le_refl _) hb⟩
            clear hK K
            repeat (
              with_reducible refine wpQuiet_step (fun K hK => ?_)
              go_simp
              refine hK _ ?_
              clear hK K)
            with_reducible refine wpQuiet_step (fun K hK => ?_)
            go_simp
            apply Exists.intro
            refine ⟨fun p => ?_, hK _ ?_⟩
            exact (HJ.out _).mono fun e w5 ⟨he, hb⟩ => ⟨he, p.step (Nat.le_refl _) hb⟩
            clear hK K
            repeat (
              with_reducible refine wpQuiet_step (fun K hK => ?_)
              go_simp
              refine hK _ ?_
              clear hK K)
            refine wpQuiet_nil ?_
            rintro _ ⟨p, rfl⟩
            go_wp2_with fail
            refine (HF1.out p.x p.h).mono ?_
            rintro e w2 ⟨rfl, hb2⟩
            have Hb2 := Lib.hid (bthen (bthen Hb1.out p.h) hb2)
            have Hb3 := Lib.hid (bthen (bthen (bthen hb.out Hb1'.out) p.h) hb2); clear hb2
            rw [Ho.out]
            go_wp2_with fail
            go_ret
            exact ⟨by rw [Hno.out]; rfl, Hb2.out⟩
        · have Hno : Hid (tf (Dist Tb.id Tb.nm l) = false) := tf_no (dist_id Hx.out Hy.out (of_decide_eq_true hd))
          go_wp2_with fail
          rw [Hw1.out]
          refine wp_region_below w1.heap.size (by kernel_rfl) (by kernel_rfl) ?_
          repeat (
            with_reducible refine wpQuiet_step (fun K hK => ?_)
            go_simp
            refine hK _ ?_
            clear hK K)
          with_reducible refine wpQuiet_step (fun K hK => ?_)
          go_simp
          apply Exists.intro
          refine ⟨fun p => ?_, hK _ ?_⟩
          exact (HI.out _).mono fun e w5 ⟨he, hb⟩ => ⟨he, p.step (Nat.le_refl _) hb⟩
          clear hK K
          repeat (
            with_reducible refine wpQuiet_step (fun K hK => ?_)
            go_simp
            refine hK _ ?_
            clear hK K)
          with_reducible refine wpQuiet_step (fun K hK => ?_)
          go_simp
          apply Exists.intro
          refine ⟨fun p => ?_, hK _ ?_⟩
          exact (HJ.out _).mono fun e w5 ⟨he, hb⟩ => ⟨he, p.step (Nat.le_refl _) hb⟩
          clear hK K
          repeat (
            with_reducible refine wpQuiet_step (fun K hK => ?_)
            go_simp
            refine hK _ ?_
            clear hK K)
          refine wpQuiet_nil ?_
          rintro _ ⟨p, rfl⟩
          go_wp2_with fail
          go_ret
          exact ⟨by rw [Hno.out]; rfl, bthen Hb1.out p.h⟩
    · have Hyes : Hid (tf (Dist Tb.id Tb.nm l) = true) := tf_yes fun i hi => hall.out i (by omega)
      go_wp2_with fail
      go_ret
      exact ⟨by rw [Hyes.out]; rfl, Hbw.out⟩
theorem entersDistC : ∀ args w, (callFunc 126 args).run Tryz.prog w = .ok (.enter 126 args) w := Go.Proofs.enters_of Tryz.func126 (by kernel_rfl) rfl
set_option maxRecDepth 100000 in
set_option maxHeartbeats 1600000 in
theorem distC_any (A : Option Addr) (cp : Nat) (l : List Cb) (w : World) (hA : ColsAt w w.heap.size A l) (hl : l.length ≤ 1000000) (hcp : l.length ≤ cp) :
    Calls Tryz.prog 99 #[.slice A l.length cp, .func (.func 100) #[] #[], .func (.func 101) #[] #[]] w fun e w' => e = .returned (.bool (tf (Dist Cb.id Cb.nm l))) ∧ Below w.heap.size w w' := by
  have HA := Lib.hid hA; clear hA
  have hmf : ∀ (fn : Fn) (first cap : Array Value) (w : World), (Instr.makeFunc fn first cap).run Tryz.prog w = .ok (.func fn first cap) w := fun _ _ _ _ => rfl
  have hb0 := Lib.hid (below_one w (.cells #[.func (.func 101) #[] #[]] 119))
  have hc0 : Hid ((w.alloc (.cells #[.func (.func 101) #[] #[]] 119)).cell? ⟨w.heap.size, 0, none⟩ = some (.func (.func 101) #[] #[])) := by show _ = _; simp
  have hs0 : Hid ((w.alloc (.cells #[.func (.func 101) #[] #[]] 119)).heap.size = w.heap.size + 1) := by show _ = _; simp
  go_enter Tryz.func99, Tryz.ntmps99
  go_wp2_with fail
  obtain ⟨w0, hw0⟩ : ∃ w0, w.alloc (.cells #[.func (.func 101) #[] #[]] 119) = w0 := ⟨_, rfl⟩
  rw [hw0] at hb0 hc0 hs0 ⊢
  clear hw0
  go_loopw [14] (fun i wr => ∃ k : Nat, k ≤ l.length ∧ i = .int .i64 k ∧ Hid (∀ j, j < k → OkAt Cb.id Cb.nm l j) ∧ Hid (Below w0.heap.size w0 wr)) (fun i _ => l.length - (intOf i).toNat)
  case atStart => exact ⟨0, by omega, rfl, fun j h => absurd h (by omega), Below.refl _ _⟩
  case round =>
    obtain ⟨k, hk, rfl, hall, hb⟩ := hrel
    have Hbw := Lib.hid (bthen hb0.out hb.out)
    have Hsz2 := Lib.hid hb.out.size
    by_cases hlt : k < l.length
    · obtain ⟨x, hx⟩ : ∃ x, l[k]? = some x := ⟨l[k], by simp [hlt]⟩
      have Hx := Lib.hid hx
      obtain ⟨b, off, rfl, hbB, c0, c1, c2, c3, c4, c5, c6, c7⟩ := ColsAt.get (RowAt.below HA.out Hbw.out) k x hx
      clear hx
      obtain ⟨w1, hw1⟩ : ∃ w1, wr.alloc (.cells (fC x).toArray 59) = w1 := ⟨_, rfl⟩
      have Hw1 : Hid (wr.alloc (.cells #[.int .i64 x.id, .string x.nm, .int .i64 x.tk, .int .i64 x.tm, .bool x.nl, .int .i64 x.dk, .int .i64 x.dn, .string x.ds] 59) = w1) := hw1
      have Hb1' : Hid (Below wr.heap.size wr w1) := by show Below _ _ _; rw [← hw1]; exact below_one wr _
      have Hb1 := Lib.hid (bthen Hbw.out Hb1'.out)
      have HX : Hid (BlkN w1 wr.heap.size (fC x)) := by show BlkN _ _ _; rw [← hw1]; exact BlkN.new wr _ (fC x) _ rfl
      have Hs1 : Hid (w1.heap.size = wr.heap.size + 1) := by show _ = _; rw [← hw1]; simp
      have HN1 : Hid (w1.cell? ⟨w.heap.size, 0, none⟩ = some (.func (.func 101) #[] #[])) := (Hb1'.out.cell (show w.heap.size < wr.heap.size by have := hs0.out; have := Hsz2.out; omega)).trans ((hb.out.cell (show w.heap.size < w0.heap.size by have := hs0.out; omega)).trans hc0.out)
      clear hw1
      have hlk : (l.take k).length = k := by rw [List.length_take]; omega
      have HF1 : Hid (∀ w', Below w1.heap.size w1 w' → Calls Tryz.prog 109 #[.slice (some ⟨b, off, none⟩) k cp, .func (.func 126) #[] #[.pointer (some ⟨w.heap.size, 0, none⟩), .pointer (some ⟨wr.heap.size, 0, none⟩)]] w' fun e w2 => e = .returned (fstV ((l.take k).findIdx? fun y => eqS y.nm x.nm)) ∧ Below w'.heap.size w' w2) := fun w' hb' => by
        have := firstC_any (some ⟨b, off, none⟩) cp (l.take k) 126 #[.pointer (some ⟨w.heap.size, 0, none⟩), .pointer (some ⟨wr.heap.size, 0, none⟩)] (fun y => eqS y.nm x.nm) w' ((RowAt.take (RowAt.to HA.out (bthen Hb1.out hb')) k)) (by omega) entersDistC (fun y _ w2 hb2 =>
          dist1C_any y x _ _ w2 (((bthen hb' hb2).cell (show w.heap.size < w1.heap.size by have := hs0.out; have := Hsz2.out; have := Hs1.out; omega)).trans HN1.out) (HX.out.below (bthen hb' hb2) (by have := Hs1.out; omega)))
        rwa [hlk] at this
      clear hlk
      have hne : Nonempty (BelowBy w1.heap.size w1) := ⟨⟨w1, Below.refl _ _⟩⟩
      have X0 : ∀ p : BelowBy w1.heap.size w1, p.x.cell? ⟨wr.heap.size, 0, none⟩ = some (.int .i64 x.id) := fun p => (p.h.cell (by have := Hs1.out; simp; omega)).trans (HX.out 0 _ rfl)
      have X1 : ∀ p : BelowBy w1.heap.size w1, p.x.cell? ⟨wr.heap.size, 1, none⟩ = some (.string x.nm) := fun p => (p.h.cell (by have := Hs1.out; simp; omega)).trans (HX.out 1 _ rfl)
      have X2 : ∀ p : BelowBy w1.heap.size w1, p.x.cell? ⟨wr.heap.size, 2, none⟩ = some (.int .i64 x.tk) := fun p => (p.h.cell (by have := Hs1.out; simp; omega)).trans (HX.out 2 _ rfl)
      have X3 : ∀ p : BelowBy w1.heap.size w1, p.x.cell? ⟨wr.heap.size, 3, none⟩ = some (.int .i64 x.tm) := fun p => (p.h.cell (by have := Hs1.out; simp; omega)).trans (HX.out 3 _ rfl)
      have X4 : ∀ p : BelowBy w1.heap.size w1, p.x.cell? ⟨wr.heap.size, 4, none⟩ = some (.bool x.nl) := fun p => (p.h.cell (by have := Hs1.out; simp; omega)).trans (HX.out 4 _ rfl)
      have X5 : ∀ p : BelowBy w1.heap.size w1, p.x.cell? ⟨wr.heap.size, 5, none⟩ = some (.int .i64 x.dk) := fun p => (p.h.cell (by have := Hs1.out; simp; omega)).trans (HX.out 5 _ rfl)
      have X6 : ∀ p : BelowBy w1.heap.size w1, p.x.cell? ⟨wr.heap.size, 6, none⟩ = some (.int .i64 x.dn) := fun p => (p.h.cell (by have := Hs1.out; simp; omega)).trans (HX.out 6 _ rfl)
      have X7 : ∀ p : BelowBy w1.heap.size w1, p.x.cell? ⟨wr.heap.size, 7, none⟩ = some (.string x.ds) := fun p => (p.h.cell (by have := Hs1.out; simp; omega)).trans (HX.out 7 _ rfl)
      by_cases hk0 : k = 0
      · subst hk0
        simp only [Nat.zero_mul, Nat.add_zero] at c0 c1 c2 c3 c4 c5 c6 c7
        cases ho : (l.take 0).findIdx? fun y => eqS y.nm x.nm with
        | none =>
          have Ho : Hid (fstV ((l.take 0).findIdx? fun y => eqS y.nm x.nm) = .tuple #[.int .i64 0, .bool false]) := by show _ = _; rw [ho]; rfl
          have Hall : Hid (∀ i, i < 0 + 1 → OkAt Cb.id Cb.nm l i) := dist_more hall.out Hx.out (fun y h _ => absurd h (by omega)) ho
          clear ho
          go_wp2_with fail
          rw [Hw1.out]
          refine wp_region_below w1.heap.size (by kernel_rfl) (by kernel_rfl) ?_
          repeat (
            with_reducible refine wpQuiet_step (fun K hK => ?_)
            go_simp
            refine hK _ ?_
            clear hK K)
          refine wpQuiet_nil ?_
          rintro _ ⟨p, rfl⟩
          go_wp2_with fail
          refine (HF1.out p.x p.h).mono ?_
          rintro e w2 ⟨rfl, hb2⟩
          have Hb2 := Lib.hid (bthen (bthen Hb1.out p.h) hb2)
          have Hb3 := Lib.hid (bthen (bthen (bthen hb.out Hb1'.out) p.h) hb2); clear hb2
          rw [Ho.out]
          go_wp2_with fail
          go_roundw
          case rel => exact ⟨0 + 1, by omega, by go_num, Hall.out, Hb3.out⟩
          case measure => simp [intOf]; omega
        | some q =>
          have Ho : Hid (fstV ((l.take 0).findIdx? fun y => eqS y.nm x.nm) = .tuple #[.int .i64 (q : Int), .bool true]) := by show _ = _; rw [ho]; rfl
          have Hno : Hid (tf (Dist Cb.id Cb.nm l) = false) := tf_no (dist_name Hx.out ho)
          clear ho
          go_wp2_with fail
          rw [Hw1.out]
          refine wp_region_below w1.heap.size (by kernel_rfl) (by kernel_rfl) ?_
          repeat (
            with_reducible refine wpQuiet_step (fun K hK => ?_)
            go_simp
            refine hK _ ?_
            clear hK K)
          refine wpQuiet_nil ?_
          rintro _ ⟨p, rfl⟩
          go_wp2_with fail
          refine (HF1.out p.x p.h).mono ?_
          rintro e w2 ⟨rfl, hb2⟩
          have Hb2 := Lib.hid (bthen (bthen Hb1.out p.h) hb2)
          have Hb3 := Lib.hid (bthen (bthen (bthen hb.out Hb1'.out) p.h) hb2); clear hb2
          rw [Ho.out]
          go_wp2_with fail
          go_ret
          exact ⟨by rw [Hno.out]; rfl, Hb2.out⟩
      · obtain ⟨j, rfl⟩ : ∃ j, k = j + 1 := ⟨k - 1, by omega⟩
        clear hk0
        obtain ⟨y, hy⟩ : ∃ y, l[j]? = some y := ⟨l[j]'(by omega), by simp [show j < l.length by omega]⟩
        have Hy := Lib.hid hy
        obtain ⟨b', off', e', _, y0, y1, y2, y3, y4, y5, y6, y7⟩ := ColsAt.get (RowAt.below HA.out Hbw.out) j y hy
        cases e'
        clear hy
        have Y0 : ∀ p : BelowBy w1.heap.size w1, p.x.cell? ⟨b, off + j * 8, none⟩ = some (.int .i64 y.id) := fun p => (p.h.cell (by have := Hs1.out; have := Hbw.out.size; simp; omega)).trans ((Hb1'.out.cell (by have := Hbw.out.size; simp; omega)).trans y0)
        have Y1 : ∀ p : BelowBy w1.heap.size w1, p.x.cell? ⟨b, off + j * 8 + 1, none⟩ = some (.string y.nm) := fun p => (p.h.cell (by have := Hs1.out; have := Hbw.out.size; simp; omega)).trans ((Hb1'.out.cell (by have := Hbw.out.size; simp; omega)).trans y1)
        have Y2 : ∀ p : BelowBy w1.heap.size w1, p.x.cell? ⟨b, off + j * 8 + 2, none⟩ = some (.int .i64 y.tk) := fun p => (p.h.cell (by have := Hs1.out; have := Hbw.out.size; simp; omega)).trans ((Hb1'.out.cell (by have := Hbw.out.size; simp; omega)).trans y2)
        have Y3 : ∀ p : BelowBy w1.heap.size w1, p.x.cell? ⟨b, off + j * 8 + 3, none⟩ = some (.int .i64 y.tm) := fun p => (p.h.cell (by have := Hs1.out; have := Hbw.out.size; simp; omega)).trans ((Hb1'.out.cell (by have := Hbw.out.size; simp; omega)).trans y3)
        have Y4 : ∀ p : BelowBy w1.heap.size w1, p.x.cell? ⟨b, off + j * 8 + 4, none⟩ = some (.bool y.nl) := fun p => (p.h.cell (by have := Hs1.out; have := Hbw.out.size; simp; omega)).trans ((Hb1'.out.cell (by have := Hbw.out.size; simp; omega)).trans y4)
        have Y5 : ∀ p : BelowBy w1.heap.size w1, p.x.cell? ⟨b, off + j * 8 + 5, none⟩ = some (.int .i64 y.dk) := fun p => (p.h.cell (by have := Hs1.out; have := Hbw.out.size; simp; omega)).trans ((Hb1'.out.cell (by have := Hbw.out.size; simp; omega)).trans y5)
        have Y6 : ∀ p : BelowBy w1.heap.size w1, p.x.cell? ⟨b, off + j * 8 + 6, none⟩ = some (.int .i64 y.dn) := fun p => (p.h.cell (by have := Hs1.out; have := Hbw.out.size; simp; omega)).trans ((Hb1'.out.cell (by have := Hbw.out.size; simp; omega)).trans y6)
        have Y7 : ∀ p : BelowBy w1.heap.size w1, p.x.cell? ⟨b, off + j * 8 + 7, none⟩ = some (.string y.ds) := fun p => (p.h.cell (by have := Hs1.out; have := Hbw.out.size; simp; omega)).trans ((Hb1'.out.cell (by have := Hbw.out.size; simp; omega)).trans y7)
        clear y0 y1 y2 y3 y4 y5 y6 y7
        have hwj : IntKind.i64.wrap (j : Int) = (j : Int) := by rw [IntKind.wrap_i64]; omega
        have hj0 : (0 : Int) ≤ (j : Int) := by omega
        have hjl : (j : Int) < (l.length : Int) := by omega
        have HI := Lib.hid (fun w => idC_any y w)
        have HJ := Lib.hid (fun w => idC_any x w)
        cases hd : decide (x.id ≤ y.id)
        · have Hlt : Hid (y.id < x.id) := by have h := of_decide_eq_false hd; show _ < _; omega
          have Hok : Hid (∀ z, 0 < j + 1 → l[j + 1 - 1]? = some z → z.id < x.id) := fun z _ hz => by
            rw [show j + 1 - 1 = j by omega, Hy.out] at hz
            cases hz
            exact Hlt.out
          
          cases ho : (l.take (j + 1)).findIdx? fun y => eqS y.nm x.nm with
          | none =>
            have Ho : Hid (fstV ((l.take (j + 1)).findIdx? fun y => eqS y.nm x.nm) = .tuple #[.int .i64 0, .bool false]) := by show _ = _; rw [ho]; rfl
            have Hall : Hid (∀ i, i < j + 1 + 1 → OkAt Cb.id Cb.nm l i) := dist_more hall.out Hx.out Hok.out ho
            clear ho
            go_wp2_with fail
            rw [Hw1.out]
            refine wp_region_below w1.heap.size (by kernel_rfl) (by kernel_rfl) ?_
            repeat (
              with_reducible refine wpQuiet_step (fun K hK => ?_)
              go_simp
              refine hK _ ?_
              clear hK K)
            with_reducible refine wpQuiet_step (fun K hK => ?_)
            go_simp
            apply Exists.intro
            refine ⟨fun p => ?_, hK _ ?_⟩
            exact (HI.out _).mono fun e w5 ⟨he, hb⟩ => ⟨he, p.step (Nat.le_refl _) hb⟩
            clear hK K
            repeat (
              with_reducible refine wpQuiet_step (fun K hK => ?_)
              go_simp
              refine hK _ ?_
              clear hK K)
            with_reducible refine wpQuiet_step (fun K hK => ?_)
            go_simp
            apply Exists.intro
            refine ⟨fun p => ?_, hK _ ?_⟩
            exact (HJ.out _).mono fun e w5 ⟨he, hb⟩ => ⟨he, p.step (Nat.le_refl _) hb⟩
            clear hK K
            repeat (
              with_reducible refine wpQuiet_step (fun K hK => ?_)
              go_simp
              refine hK _ ?_
              clear hK K)
            refine wpQuiet_nil ?_
            rintro _ ⟨p, rfl⟩
            go_wp2_with fail
            refine (HF1.out p.x p.h).mono ?_
            rintro e w2 ⟨rfl, hb2⟩
            have Hb2 := Lib.hid (bthen (bthen Hb1.out p.h) hb2)
            have Hb3 := Lib.hid (bthen (bthen (bthen hb.out Hb1'.out) p.h) hb2); clear hb2
            rw [Ho.out]
            go_wp2_with fail
            go_roundw
            case rel => exact ⟨j + 1 + 1, by omega, by go_num, Hall.out, Hb3.out⟩
            case measure => simp [intOf]; omega
          | some q =>
            have Ho : Hid (fstV ((l.take (j + 1)).findIdx? fun y => eqS y.nm x.nm) = .tuple #[.int .i64 (q : Int), .bool true]) := by show _ = _; rw [ho]; rfl
            have Hno : Hid (tf (Dist Cb.id Cb.nm l) = false) := tf_no (dist_name Hx.out ho)
            clear ho
            go_wp2_with fail
            rw [Hw1.out]
            refine wp_region_below w1.heap.size (by kernel_rfl) (by kernel_rfl) ?_
            repeat (
              with_reducible refine wpQuiet_step (fun K hK => ?_)
              go_simp
              refine hK _ ?_
              clear hK K)
            with_reducible refine wpQuiet_step (fun K hK => ?_)
            go_simp
            apply Exists.intro
            refine ⟨fun p => ?_, hK _ ?_⟩
            exact (HI.out _).mono fun e w5 ⟨he, hb⟩ => ⟨he, p.step (Nat.le_refl _) hb⟩
            clear hK K
            repeat (
              with_reducible refine wpQuiet_step (fun K hK => ?_)
              go_simp
              refine hK _ ?_
              clear hK K)
            with_reducible refine wpQuiet_step (fun K hK => ?_)
            go_simp
            apply Exists.intro
            refine ⟨fun p => ?_, hK _ ?_⟩
            exact (HJ.out _).mono fun e w5 ⟨he, hb⟩ => ⟨he, p.step (Nat.le_refl _) hb⟩
            clear hK K
            repeat (
              with_reducible refine wpQuiet_step (fun K hK => ?_)
              go_simp
              refine hK _ ?_
              clear hK K)
            refine wpQuiet_nil ?_
            rintro _ ⟨p, rfl⟩
            go_wp2_with fail
            refine (HF1.out p.x p.h).mono ?_
            rintro e w2 ⟨rfl, hb2⟩
            have Hb2 := Lib.hid (bthen (bthen Hb1.out p.h) hb2)
            have Hb3 := Lib.hid (bthen (bthen (bthen hb.out Hb1'.out) p.h) hb2); clear hb2
            rw [Ho.out]
            go_wp2_with fail
            go_ret
            exact ⟨by rw [Hno.out]; rfl, Hb2.out⟩
        · have Hno : Hid (tf (Dist Cb.id Cb.nm l) = false) := tf_no (dist_id Hx.out Hy.out (of_decide_eq_true hd))
          go_wp2_with fail
          rw [Hw1.out]
          refine wp_region_below w1.heap.size (by kernel_rfl) (by kernel_rfl) ?_
          repeat (
            with_reducible refine wpQuiet_step (fun K hK => ?_)
            go_simp
            refine hK _ ?_
            clear hK K)
          with_reducible refine wpQuiet_step (fun K hK => ?_)
          go_simp
          apply Exists.intro
          refine ⟨fun p => ?_, hK _ ?_⟩
          exact (HI.out _).mono fun e w5 ⟨he, hb⟩ => ⟨he, p.step (Nat.le_refl _) hb⟩
          clear hK K
          repeat (
            with_reducible refine wpQuiet_step (fun K hK => ?_)
            go_simp
            refine hK _ ?_
            clear hK K)
          with_reducible refine wpQuiet_step (fun K hK => ?_)
          go_simp
          apply Exists.intro
          refine ⟨fun p => ?_, hK _ ?_⟩
          exact (HJ.out _).mono fun e w5 ⟨he, hb⟩ => ⟨he, p.step (Nat.le_refl _) hb⟩
          clear hK K
          repeat (
            with_reducible refine wpQuiet_step (fun K hK => ?_)
            go_simp
            refine hK _ ?_
            clear hK K)
          refine wpQuiet_nil ?_
          rintro _ ⟨p, rfl⟩
          go_wp2_with fail
          go_ret
          exact ⟨by rw [Hno.out]; rfl, bthen Hb1.out p.h⟩
    · have Hyes : Hid (tf (Dist Cb.id Cb.nm l) = true) := tf_yes fun i hi => hall.out i (by omega)
      go_wp2_with fail
      go_ret
      exact ⟨by rw [Hyes.out]; rfl, Hbw.out⟩
end Go.Proofs.YtlbdbaafmdikcaaGreatDoor

/-
  Contracts of package schema's rightColumns, rightKey, RightTable and Right.
-/
namespace Go.Proofs.YtlbdbaafmdikcaaGreatDoor
open Go.RowKit

set_option maxRecDepth 100000 in
theorem rcols1_any (c : Cb) (b : Nat) (nx : Int) (w : World) (ht : UTab w) (hw : WfC c) (hc : w.cell? ⟨b, 3, none⟩ = some (.int .i64 nx)) :
    Calls Tryz.prog 97 #[CV c, .pointer (some ⟨b, 0, none⟩)] w fun e w' => e = .returned (.bool (rightC c && decide (c.id < nx))) ∧ Below w.heap.size w w' := by
  have hlt := World.block_lt_of_cell? w ⟨b, 3, none⟩ hc
  have hk := Lib.hid (keep_alloc hc (.cells (fC c).toArray 59)); clear hc
  have hb0 := Lib.hid (below_one w (.cells (fC c).toArray 59))
  have HB := Lib.hid (BlkN.new w _ (fC c) 59 rfl)
  have HR := Lib.hid (rcol_any c _ (ht.alloc (.cells (fC c).toArray 59)) hw); clear ht hw
  generalize rightC c = r at HR
  cases r
  all_goals
    go_enter Tryz.func97, Tryz.ntmps97
    go_wp2_with fail
    refine HR.out.mono ?_
    rintro e w1 ⟨rfl, hb1⟩
    have Hb1 := Lib.hid (bthen hb0.out hb1)
    have HK := Lib.hid (HB.out.below hb1 (by simp))
    have hn : w1.cell? ⟨b, 3, none⟩ = some (.int .i64 nx) := (hb1.cell (by simp; exact Nat.lt_succ_of_lt hlt)).trans hk.out
    clear hb1
    obtain ⟨c0, _⟩ := HK.out.col
    go_wp2_with fail
    go_ret
    exact ⟨by simp, Hb1.out⟩
theorem entersRCols : ∀ args w, (callFunc 97 args).run Tryz.prog w = .ok (.enter 97 args) w := Go.Proofs.enters_of Tryz.func97 (by kernel_rfl) rfl
set_option maxRecDepth 100000 in
set_option maxHeartbeats 800000 in
theorem rcols_any (t : Tb) (w : World) (ht : UTab w) (hw : WfT t) (hA : TabAt w w.heap.size t) :
    Calls Tryz.prog 66 #[TV t] w fun e w' => e = .returned (.bool (rightCols t)) ∧ Below w.heap.size w w' := by
  have HW := Lib.hid hw; clear hw
  have hmf : ∀ (fn : Fn) (first cap : Array Value) (w : World), (Instr.makeFunc fn first cap).run Tryz.prog w = .ok (.func fn first cap) w := fun _ _ _ _ => rfl
  have hb0 := Lib.hid (below_one w (.cells (fT t).toArray 45))
  have HB := Lib.hid (BlkN.new w _ (fT t) 45 rfl)
  have HA := Lib.hid (RowAt.to hA hb0.out); clear hA
  have HT := Lib.hid (ht.alloc (.cells (fT t).toArray 45)); clear ht
  have Hv : Hid (rightCols t = ((t.cols.all fun c => rightC c && decide (c.id < t.nx)) && tf (Dist Cb.id Cb.nm t.cols))) := rfl
  have HC := Lib.hid (allC_any t.A t.cap t.cols 97 #[.pointer (some ⟨w.heap.size, 0, none⟩)] (fun c => rightC c && decide (c.id < t.nx)) _ HA.out HW.out.2.1 entersRCols
    (fun x hx w' hb' => rcols1_any x _ t.nx w' (HT.out.below hb' (Nat.le_refl _)) (HW.out.2.2.2 x hx) ((hb'.cell (by simp)).trans HB.out.tab.2.2.2.1)))
  have HD := Lib.hid (fun w' hA' => distC_any t.A t.cap t.cols w' hA' HW.out.2.1 HW.out.2.2.1)
  generalize (t.cols.all fun c => rightC c && decide (c.id < t.nx)) = r at HC Hv
  generalize tf (Dist Cb.id Cb.nm t.cols) = d at HD Hv
  cases r
  · go_enter Tryz.func66, Tryz.ntmps66
    go_wp2_with fail
    refine HC.out.mono ?_
    rintro e w1 ⟨rfl, hb1⟩
    have Hb1 := Lib.hid (bthen hb0.out hb1); clear hb1
    go_wp2_with fail
    go_ret
    exact ⟨by rw [Hv.out]; rfl, Hb1.out⟩
  · go_enter Tryz.func66, Tryz.ntmps66
    go_wp2_with fail
    refine HC.out.mono ?_
    rintro e w1 ⟨rfl, hb1⟩
    have Hb1 := Lib.hid (bthen hb0.out hb1)
    have HA1 := Lib.hid (RowAt.to HA.out hb1)
    have HK := Lib.hid (HB.out.below hb1 (by simp)); clear hb1
    obtain ⟨c0, c1, c2, c3, c4⟩ := HK.out.tab
    go_wp2_with fail
    refine (HD.out _ HA1.out).mono ?_
    rintro e w2 ⟨rfl, hb2⟩
    have Hb2 := Lib.hid (bthen Hb1.out hb2); clear hb2
    go_wp2_with fail
    go_ret
    exact ⟨by rw [Hv.out]; rfl, Hb2.out⟩
set_option maxRecDepth 100000 in
set_option maxHeartbeats 800000 in
theorem rkey_any (t : Tb) (w : World) (hw : WfT t) (hA : TabAt w w.heap.size t) :
    Calls Tryz.prog 67 #[TV t] w fun e w' => e = .returned (.bool (tf (keyOk t))) ∧ Below w.heap.size w w' := by
  have hb0 := Lib.hid (below_one w (.cells (fT t).toArray 45))
  have HB := Lib.hid (BlkN.new w _ (fT t) 45 rfl)
  have HA := Lib.hid (RowAt.to hA hb0.out); clear hA
  have HK := Lib.hid (skey_any t _ HA.out hw.2.1)
  have hlen := hw.2.1; clear hw
  cases ho : t.cols.findIdx? fun c => c.id == t.key with
  | none =>
    have Ho : Hid (fstV (t.cols.findIdx? fun c => c.id == t.key) = .tuple #[.int .i64 0, .bool false]) := by show _ = _; rw [ho]; rfl
    have Hno : Hid (tf (keyOk t) = false) := tf_no (by rintro ⟨i, c, h, _⟩; rw [ho] at h; cases h)
    clear ho
    rw [Ho.out] at HK
    go_enter Tryz.func67, Tryz.ntmps67
    go_wp2_with fail
    refine HK.out.mono ?_
    rintro e w1 ⟨rfl, hb1⟩
    have Hb1 := Lib.hid (bthen hb0.out hb1); clear hb1
    go_wp2_with fail
    go_ret
    exact ⟨by rw [Hno.out]; rfl, Hb1.out⟩
  | some k =>
    have Ho : Hid (fstV (t.cols.findIdx? fun c => c.id == t.key) = .tuple #[.int .i64 (k : Int), .bool true]) := by show _ = _; rw [ho]; rfl
    obtain ⟨c, hc, _⟩ := find_some ho
    have hkl := find_lt ho
    have Hyes : Hid (tf (keyOk t) = !c.nl) := by
      show _ = _
      apply bool_eq
      rw [tf_iff]
      constructor
      · rintro ⟨i, c', h, h2, h3⟩
        rw [ho] at h; cases h
        rw [hc] at h2; cases h2
        simp [h3]
      · intro h
        exact ⟨k, c, ho, hc, by simpa using h⟩
    have Hc := Lib.hid hc
    clear ho hc
    rw [Ho.out] at HK
    go_enter Tryz.func67, Tryz.ntmps67
    go_wp2_with fail
    refine HK.out.mono ?_
    rintro e w1 ⟨rfl, hb1⟩
    have Hb1 := Lib.hid (bthen hb0.out hb1)
    have HK1 := Lib.hid (HB.out.below hb1 (by simp))
    obtain ⟨c0, c1, c2, c3, c4⟩ := HK1.out.tab
    obtain ⟨b, off, hAe, hbB, d0, d1, d2, d3, d4, d5, d6, d7⟩ := ColsAt.get (RowAt.below HA.out hb1) k c Hc.out
    rw [hAe] at c4
    clear hb1
    go_wp2_with fail
    go_ret
    exact ⟨by rw [Hyes.out]; rfl, Hb1.out⟩
end Go.Proofs.YtlbdbaafmdikcaaGreatDoor

/-
  Contracts of package schema's RightTable and Right.
-/
namespace Go.Proofs.YtlbdbaafmdikcaaGreatDoor
open Go.RowKit

set_option maxRecDepth 100000 in
set_option maxHeartbeats 1600000 in
theorem rtab_any (t : Tb) (w : World) (ht : UTab w) (hw : WfT t) (hA : TabAt w w.heap.size t) :
    Calls Tryz.prog 45 #[TV t] w fun e w' => e = .returned (.bool (rightTab t)) ∧ Below w.heap.size w w' := by
  have hb0 := Lib.hid (below_one w (.cells (fT t).toArray 45))
  have HB := Lib.hid (BlkN.new w _ (fT t) 45 rfl)
  have HA := Lib.hid (RowAt.to hA hb0.out); clear hA
  have HT := Lib.hid (ht.alloc (.cells (fT t).toArray 45)); clear ht
  have HN := Lib.hid (fun w => nright_any t.nm w hw.1)
  have HC := Lib.hid (rcols_any t _ HT.out hw HA.out)
  have HK := Lib.hid (fun w' hA' => rkey_any t w' hw hA'); clear hw
  have Hv : Hid (rightTab t = (decide (0 ≤ t.id) && (rightN (bs t.nm) && (decide (t.nx ≤ 200) && (decide (1 ≤ (t.cols.length : Int)) && (decide ((t.cols.length : Int) ≤ 10) && (rightCols t && tf (keyOk t)))))))) := rfl
  generalize h1 : decide (0 ≤ t.id) = b1 at Hv
  generalize rightN (bs t.nm) = b2 at Hv HN
  generalize h3 : decide (t.nx ≤ 200) = b3 at Hv
  generalize h4 : decide (1 ≤ (t.cols.length : Int)) = b4 at Hv
  generalize h5 : decide ((t.cols.length : Int) ≤ 10) = b5 at Hv
  generalize rightCols t = b6 at Hv HC
  generalize tf (keyOk t) = b7 at Hv HK
  cases b1
  · go_enter Tryz.func45, Tryz.ntmps45
    go_wp2_with fail
    go_ret
    exact ⟨by rw [Hv.out]; rfl, by go_grown⟩
  cases b2
  · go_enter Tryz.func45, Tryz.ntmps45
    go_wp2_with fail
    refine (HN.out _).mono ?_
    rintro e w1 ⟨rfl, rfl⟩
    go_wp2_with fail
    go_ret
    exact ⟨by rw [Hv.out]; rfl, by go_grown⟩
  cases b3
  · go_enter Tryz.func45, Tryz.ntmps45
    go_wp2_with fail
    refine (HN.out _).mono ?_
    rintro e w1 ⟨rfl, rfl⟩
    go_wp2_with fail
    go_ret
    exact ⟨by rw [Hv.out]; rfl, by go_grown⟩
  cases b4
  · go_enter Tryz.func45, Tryz.ntmps45
    go_wp2_with fail
    refine (HN.out _).mono ?_
    rintro e w1 ⟨rfl, rfl⟩
    go_wp2_with fail
    go_ret
    exact ⟨by rw [Hv.out]; rfl, by go_grown⟩
  cases b5
  · go_enter Tryz.func45, Tryz.ntmps45
    go_wp2_with fail
    refine (HN.out _).mono ?_
    rintro e w1 ⟨rfl, rfl⟩
    go_wp2_with fail
    go_ret
    exact ⟨by rw [Hv.out]; rfl, by go_grown⟩
  cases b6
  · go_enter Tryz.func45, Tryz.ntmps45
    go_wp2_with fail
    refine (HN.out _).mono ?_
    rintro e w1 ⟨rfl, rfl⟩
    go_wp2_with fail
    refine HC.out.mono ?_
    rintro e w1 ⟨rfl, hb1⟩
    have Hb1 := Lib.hid (bthen hb0.out hb1)
    have HA1 := Lib.hid (RowAt.to HA.out hb1)
    have HK1 := Lib.hid (HB.out.below hb1 (by simp)); clear hb1
    obtain ⟨c0, c1, c2, c3, c4⟩ := HK1.out.tab
    go_wp2_with fail
    go_ret
    exact ⟨by rw [Hv.out]; rfl, Hb1.out⟩
  · go_enter Tryz.func45, Tryz.ntmps45
    go_wp2_with fail
    refine (HN.out _).mono ?_
    rintro e w1 ⟨rfl, rfl⟩
    go_wp2_with fail
    refine HC.out.mono ?_
    rintro e w1 ⟨rfl, hb1⟩
    have Hb1 := Lib.hid (bthen hb0.out hb1)
    have HA1 := Lib.hid (RowAt.to HA.out hb1)
    have HK1 := Lib.hid (HB.out.below hb1 (by simp)); clear hb1
    obtain ⟨c0, c1, c2, c3, c4⟩ := HK1.out.tab
    go_wp2_with fail
    refine (HK.out _ HA1.out).mono ?_
    rintro e w2 ⟨rfl, hb2⟩
    have Hb2 := Lib.hid (bthen Hb1.out hb2); clear hb2
    go_wp2_with fail
    go_ret
    exact ⟨by rw [Hv.out]; rfl, Hb2.out⟩
theorem entersRTab : ∀ args w, (callFunc 45 args).run Tryz.prog w = .ok (.enter 45 args) w := Go.Proofs.enters_of Tryz.func45 (by kernel_rfl) rfl
set_option maxRecDepth 100000 in
set_option maxHeartbeats 1600000 in
theorem rcat_any (A : Option Addr) (cp : Nat) (l : List Tb) (w : World) (ht : UTab w) (hA : TabsAt w w.heap.size A l) (hw : ∀ t ∈ l, WfT t) (hl : l.length ≤ 1000000) (hcp : l.length ≤ cp) :
    Calls Tryz.prog 32 #[.agg #[.slice A l.length cp]] w fun e w' => e = .returned (.bool (rightCat l)) ∧ Below w.heap.size w w' := by
  have hb0 := Lib.hid (below_one w (.cells #[.slice A l.length cp] 37))
  have HB : Hid (BlkN (w.alloc (.cells #[.slice A l.length cp] 37)) w.heap.size [.slice A l.length cp]) := BlkN.new w _ [.slice A l.length cp] 37 rfl
  have HA := Lib.hid (hA.to hb0.out); clear hA
  have HT := Lib.hid (ht.alloc (.cells #[.slice A l.length cp] 37)); clear ht
  have HC := Lib.hid (allT_any A cp l 45 #[] rightTab _ HA.out hl entersRTab
    (fun x hx w' hb' => by
      rw [show (#[TV x] ++ (#[] : Array Value)) = #[TV x] by simp]
      exact rtab_any x w' (HT.out.below hb' (Nat.le_refl _)) (hw x hx) ((HA.out.to hb').2 x hx)))
  have HD := Lib.hid (fun w' hA' => distT_any A cp l w' hA' hl hcp); clear hw
  have Hv : Hid (rightCat l = (decide ((l.length : Int) ≤ 6) && (l.all rightTab && tf (Dist Tb.id Tb.nm l)))) := rfl
  generalize h1 : decide ((l.length : Int) ≤ 6) = b1 at Hv
  generalize l.all rightTab = b2 at Hv HC
  generalize tf (Dist Tb.id Tb.nm l) = b3 at Hv HD
  cases b1
  · go_enter Tryz.func32, Tryz.ntmps32
    go_wp2_with fail
    go_ret
    exact ⟨by rw [Hv.out]; rfl, by go_grown⟩
  cases b2
  · go_enter Tryz.func32, Tryz.ntmps32
    go_wp2_with fail
    refine HC.out.mono ?_
    rintro e w1 ⟨rfl, hb1⟩
    have Hb1 := Lib.hid (bthen hb0.out hb1)
    have HA1 := Lib.hid (HA.out.to hb1)
    have HK1 := Lib.hid (HB.out.below hb1 (by simp)); clear hb1
    have c0 := HK1.out.one
    go_wp2_with fail
    go_ret
    exact ⟨by rw [Hv.out]; rfl, Hb1.out⟩
  · go_enter Tryz.func32, Tryz.ntmps32
    go_wp2_with fail
    refine HC.out.mono ?_
    rintro e w1 ⟨rfl, hb1⟩
    have Hb1 := Lib.hid (bthen hb0.out hb1)
    have HA1 := Lib.hid (HA.out.to hb1)
    have HK1 := Lib.hid (HB.out.below hb1 (by simp)); clear hb1
    have c0 := HK1.out.one
    go_wp2_with fail
    refine (HD.out _ HA1.out).mono ?_
    rintro e w2 ⟨rfl, hb2⟩
    have Hb2 := Lib.hid (bthen Hb1.out hb2); clear hb2
    go_wp2_with fail
    go_ret
    exact ⟨by rw [Hv.out]; rfl, Hb2.out⟩
end Go.Proofs.YtlbdbaafmdikcaaGreatDoor

/-
  Contract of package ddl's Apply.
-/
namespace Go.Proofs.YtlbdbaafmdikcaaGreatDoor
open Go.RowKit

/-- the sizes of a change -/
def WfD (d : Dp) : Prop := d.tb.size ≤ 1000000 ∧ d.co.size ≤ 1000000 ∧ d.to.size ≤ 1000000 ∧ d.key.size ≤ 1000000 ∧ d.cols.length ≤ 1000000 ∧ (-9223372036854775808 ≤ d.dn ∧ d.dn < 9223372036854775808) ∧ ∀ c ∈ d.cols, WfC c
/-- the catalog behind a change, or none -/
noncomputable def applyO (L : List Tp) (d : Dp) (id : Int) : List Tp := if applyE L d id = 0 then applyR L d id else []
theorem applyE_chg {L : List Tp} {d : Dp} {id : Int} (h1 : RightL L) (h2 : plainD d = true) (h3 : 0 ≤ id) : applyE L d id = chgE L d id := by
  unfold applyE chgE
  rw [if_pos ⟨tf_iff.2 h1, h2, h3⟩]; rfl
theorem applyE_arg {L : List Tp} {d : Dp} {id : Int} (h : ¬ (RightL L ∧ plainD d = true ∧ 0 ≤ id)) : applyE L d id = 2 := by
  unfold applyE
  rw [if_neg fun e => h ⟨tf_iff.1 e.1, e.2⟩]
theorem box_ap (w : World) (v : Value) (d : Db) : ∃ w0, ((w.alloc (.cells #[v] 37)).alloc (.cells #[.int .i64 d.p.op, .string d.p.tb, .string d.p.co, .string d.p.to, .string d.p.key, .int .i64 d.p.tk, .int .i64 d.p.tm, .bool d.p.nl, .int .i64 d.p.dk, .int .i64 d.p.dn, .string d.p.ds, .slice d.A d.p.cols.length d.cap] 28)).alloc (.cells #[.slice none 0 0] 37) = w0 ∧
    Below w.heap.size w w0 ∧ w0.cell? ⟨w.heap.size, 0, none⟩ = some v ∧ BlkN w0 (w.heap.size + 1) (fD d) ∧ w0.heap[w.heap.size + 2]? = some (.cells #[.slice none 0 0] 37 (0, 0)) ∧ w0.heap.size = w.heap.size + 3 :=
  ⟨_, rfl, (below_two w _ _).alloc (by simp; omega) _, keep_alloc (keep_alloc (by simp) _) _, (BlkN.new _ _ (fD d) _ (by simp)).alloc (by simp) _, by
    have := heap_alloc_new ((w.alloc (.cells #[v] 37)).alloc (.cells (fD d).toArray 28)) (.cells #[.slice none 0 0] 37)
    have e : ((w.alloc (.cells #[v] 37)).alloc (.cells (fD d).toArray 28)).heap.size = w.heap.size + 2 := by simp
    rw [e] at this
    exact this, by simp⟩
/-- a block of one cell holds no row of structs -/
theorem RowAt.put {α : Type} {m : Nat} {f : α → List Value} {w : World} {B b0 : Nat} {x : Value} {T : TypeId} {A : Option Addr} {l : List α} (h : RowAt m f w B A l) (hb : w.heap[b0]? = some (.cells #[x] T (0, 0))) (h2 : ∀ y : α, ∃ v, (f y)[1]? = some v) (u : Value) :
    RowAt m f (w.setCell ⟨b0, 0, none⟩ u) B A l := fun hl => by
  obtain ⟨b, off, rfl, h3, h4⟩ := h hl
  refine ⟨b, off, rfl, h3, fun j y hj i v hv => ?_⟩
  have hne : b ≠ b0 := fun e => by
    subst e
    obtain ⟨v1, hv1⟩ := h2 y
    have h5 := h4 j y hj 1 v1 hv1
    rw [cell_of_row w b _ _ _ (0, 0) hb] at h5
    have := (Array.getElem?_eq_some_iff.1 h5).1
    simp at this
  exact (Off.set w b0 0 u).keep (h4 j y hj i v hv) hne
theorem CatAt.put {w : World} {b0 : Nat} {x : Value} {T : TypeId} {A : Option Addr} {cap : Nat} {l : List Tb} (h : CatAt w A cap l) (hb : w.heap[b0]? = some (.cells #[x] T (0, 0))) (u : Value) : CatAt (w.setCell ⟨b0, 0, none⟩ u) A cap l := by
  have hs := (Off.set w b0 0 u).size
  exact ⟨⟨(h.1.1.put hb (fun y => ⟨_, rfl⟩) u).more hs, fun t ht => RowAt.more (RowAt.put (h.1.2 t ht) hb (fun y => ⟨_, rfl⟩) u) hs⟩, h.2⟩
/-- the base of the columns can be told below the heap's size -/
theorem OwnCat.low {w : World} {B Bc : Nat} {v : Value} {l : List Tb} (h : OwnCat w B Bc v l) (hB : B ≤ w.heap.size) (hc : ∀ t ∈ l, 0 < t.cols.length) : ∃ Bc', OwnCat w B Bc' v l ∧ Bc' ≤ w.heap.size := by
  cases l with
  | nil => exact ⟨w.heap.size, ⟨h.row, fun k hk => (h.row.lt k hk).2, hB, fun t ht => by simp at ht, h.apart⟩, Nat.le_refl _⟩
  | cons t r =>
    obtain ⟨g, cap, _, h1, h2, _⟩ := OwnR.shape (h.cols t List.mem_cons_self) (hc t List.mem_cons_self)
    exact ⟨Bc, h, by omega⟩
set_option maxRecDepth 100000 in
set_option maxHeartbeats 3000000 in
theorem apply_any (A : Option Addr) (cp : Nat) (l : List Tb) (d : Db) (id : Int) (w : World) (ht : UTab w) (hA : TabsAt w w.heap.size A l) (hw : ∀ t ∈ l, WfT t) (hl : l.length ≤ 1000000) (hcp : l.length ≤ cp) (hD : DdlAt w w.heap.size d) (hd : WfD d.p) :
    Calls Tryz.prog 18 #[.agg #[.slice A l.length cp], DV d, .int .i64 id] w fun e w' => ∃ A' cap' l', e = .returned (.tuple #[.agg #[.slice A' l'.length cap'], .int .i64 (applyE (l.map Tb.p) d.p id)]) ∧ CatAt w' A' cap' l' ∧
      l'.map Tb.p = applyO (l.map Tb.p) d.p id ∧ Below w.heap.size w w' := by
  obtain ⟨w0, hw0, hb0, hc0, hX, hr0, hs0⟩ := box_ap w (.slice A l.length cp) d
  have Hw0 := Lib.hid hw0; clear hw0
  have Hb0 := Lib.hid hb0
  have HA0 := Lib.hid (hA.to hb0); clear hA
  have HD0 := Lib.hid (hD.to hb0); clear hD
  have HT := Lib.hid (ht.below hb0 (Nat.le_refl _)); clear ht hb0
  have HX := Lib.hid hX; clear hX
  have Hr0 := Lib.hid hr0; clear hr0
  have Hs0 := Lib.hid hs0; clear hs0
  have Hc0 := Lib.hid hc0; clear hc0
  have HW := Lib.hid hw; clear hw
  have Hd := Lib.hid hd; clear hd
  have HRt := Lib.hid (rcat_any A cp l w0 HT.out HA0.out HW.out hl hcp)
  rw [← Hw0.out] at HRt
  have HPl := Lib.hid (fun w' hD' => dplain_any d w' hD' Hd.out.2.2.2.2.1)
  have Hri := Lib.hid (rightL_iff l)
  have H9 := Lib.hid (fun h => applyE_arg (L := l.map Tb.p) (d := d.p) (id := id) h)
  have H8 := Lib.hid (fun h1 h2 h3 => applyE_chg (L := l.map Tb.p) (d := d.p) (id := id) h1 h2 h3)
  have Hbad : Hid (∀ (w' : World), applyE (l.map Tb.p) d.p id ≠ 0 → Below w.heap.size w w' → ∃ A' cap' l', (Ending.returned (.tuple #[.agg #[.slice none 0 0], .int .i64 (applyE (l.map Tb.p) d.p id)]) : Ending) = .returned (.tuple #[.agg #[.slice A' l'.length cap'], .int .i64 (applyE (l.map Tb.p) d.p id)]) ∧ CatAt w' A' cap' l' ∧
      l'.map Tb.p = applyO (l.map Tb.p) d.p id ∧ Below w.heap.size w w') := fun w' h hb => ⟨none, 0, [], rfl, ⟨⟨fun h => absurd h (by simp), by simp⟩, Nat.le_refl _, by simp⟩, by unfold applyO; rw [if_neg h]; rfl, hb⟩
  have HRes : Hid (∀ X, Below w0.heap.size w0 X → X.cell? ⟨w.heap.size + 2, 0, none⟩ = some (.slice none 0 0) ∧ X.frozen? ⟨w.heap.size + 2, 0, none⟩ = false) := fun X hX => by
    have h1 := (hX.block (w.heap.size + 2) (by have := Hs0.out; omega)).trans Hr0.out
    exact ⟨by rw [cell_of_row X _ 0 _ _ (0, 0) h1]; rfl, frozen_of_row X _ 0 _ _ h1⟩
  have Hput : Hid (∀ (X : World) (v : Value), Below w.heap.size w X → Below w.heap.size w (X.setCell ⟨w.heap.size + 2, 0, none⟩ v)) := fun X v hX => bput hX (by omega) 0 v
  generalize hE : applyE (l.map Tb.p) d.p id = E at Hbad H9 H8 ⊢
  generalize hOo : applyO (l.map Tb.p) d.p id = O at Hbad ⊢
  have HE := Lib.hid hE
  have HOo := Lib.hid hOo
  clear hE hOo
  cases hb1 : rightCat l
  · have He : Hid (E = 2) := H9.out fun h => by
      have := Hri.out.2 h.1
      rw [hb1] at this; cases this
    rw [hb1] at HRt
    clear hb1 Hri H9 H8
    go_enter Tryz.func18, Tryz.ntmps18
    go_wp2_with fail
    refine HRt.out.mono ?_
    rintro e w1 ⟨rfl, hbw1⟩
    rw [Hw0.out] at hbw1
    have Hb1 := Lib.hid (bthen Hb0.out hbw1)
    obtain ⟨z0, z1⟩ := HRes.out w1 hbw1
    have Hz0 := Lib.hid z0
    clear hbw1
    have HB := Lib.hid (Hbad.out (w1.setCell ⟨w.heap.size + 2, 0, none⟩ (.slice none 0 0)) (by rw [He.out]; decide) (Hput.out _ _ Hb1.out))
    go_wp2_with fail
    refine bodyPost_ret (results_c2 rfl _ _ rfl (World.cell?_setCell_same _ _ _ Hz0.out)) rfl ?_
    rw [He.out] at HB ⊢
    exact HB.out
  rw [hb1] at HRt
  have HRl := Lib.hid (Hri.out.1 hb1)
  clear hb1 Hri
  cases hb2 : plainD d.p
  · have He : Hid (E = 2) := H9.out fun h => by rw [hb2] at h; cases h.2.1
    rw [hb2] at HPl
    clear hb2 H9 H8
    go_enter Tryz.func18, Tryz.ntmps18
    go_wp2_with fail
    refine HRt.out.mono ?_
    rintro e w1 ⟨rfl, hbw1⟩
    rw [Hw0.out] at hbw1
    have Hb1 := Lib.hid hbw1
    clear hbw1
    obtain ⟨x0, x1, x2, x3, x4, x5, x6, x7, x8, x9, x10, x11⟩ := (HX.out.below Hb1.out (by have := Hs0.out; omega)).ddl
    go_wp2_with fail
    refine (HPl.out w1 (HD0.out.to Hb1.out)).mono ?_
    rintro e w2 ⟨rfl, hbw2⟩
    have Hb2 := Lib.hid (bthen Hb1.out hbw2)
    clear hbw2
    obtain ⟨z0, z1⟩ := HRes.out w2 Hb2.out
    have Hz0 := Lib.hid z0
    have HB := Lib.hid (Hbad.out (w2.setCell ⟨w.heap.size + 2, 0, none⟩ (.slice none 0 0)) (by rw [He.out]; decide) (Hput.out _ _ (bthen Hb0.out Hb2.out)))
    go_wp2_with fail
    refine bodyPost_ret (results_c2 rfl _ _ rfl (World.cell?_setCell_same _ _ _ Hz0.out)) rfl ?_
    rw [He.out] at HB ⊢
    exact HB.out
  rw [hb2] at HPl
  have Hpl := Lib.hid hb2
  clear hb2
  by_cases hid : id < 0
  · have He : Hid (E = 2) := H9.out fun h => by omega
    have hd3 : decide (id < 0) = true := by simp [hid]
    clear hid H9 H8
    go_enter Tryz.func18, Tryz.ntmps18
    go_wp2_with fail
    refine HRt.out.mono ?_
    rintro e w1 ⟨rfl, hbw1⟩
    rw [Hw0.out] at hbw1
    have Hb1 := Lib.hid hbw1
    clear hbw1
    obtain ⟨x0, x1, x2, x3, x4, x5, x6, x7, x8, x9, x10, x11⟩ := (HX.out.below Hb1.out (by have := Hs0.out; omega)).ddl
    go_wp2_with fail
    refine (HPl.out w1 (HD0.out.to Hb1.out)).mono ?_
    rintro e w2 ⟨rfl, hbw2⟩
    have Hb2 := Lib.hid (bthen Hb1.out hbw2)
    clear hbw2
    obtain ⟨z0, z1⟩ := HRes.out w2 Hb2.out
    have Hz0 := Lib.hid z0
    have HB := Lib.hid (Hbad.out (w2.setCell ⟨w.heap.size + 2, 0, none⟩ (.slice none 0 0)) (by rw [He.out]; decide) (Hput.out _ _ (bthen Hb0.out Hb2.out)))
    go_wp2_with fail
    refine bodyPost_ret (results_c2 rfl _ _ rfl (World.cell?_setCell_same _ _ _ Hz0.out)) rfl ?_
    rw [He.out] at HB ⊢
    exact HB.out
  have hd3 : decide (id < 0) = false := by simp; omega
  have He : Hid (E = chgE (l.map Tb.p) d.p id) := H8.out HRl.out Hpl.out (by omega)
  clear hid H9 H8
  have Hop := Lib.hid (plainD_op Hpl.out)
  go_enter Tryz.func18, Tryz.ntmps18
  go_wp2_with fail
  refine HRt.out.mono ?_
  rintro e w1 ⟨rfl, hbw1⟩
  rw [Hw0.out] at hbw1
  have Hb1 := Lib.hid hbw1
  clear hbw1
  obtain ⟨x0, x1, x2, x3, x4, x5, x6, x7, x8, x9, x10, x11⟩ := (HX.out.below Hb1.out (by have := Hs0.out; omega)).ddl
  go_wp2_with fail
  refine (HPl.out w1 (HD0.out.to Hb1.out)).mono ?_
  rintro e w2 ⟨rfl, hbw2⟩
  have Hb2 := Lib.hid (bthen Hb1.out hbw2)
  clear hbw2 x0 x1 x2 x3 x4 x5 x6 x7 x8 x9 x10 x11
  have c0 := (Hb2.out.cell (p := ⟨w.heap.size, 0, none⟩) (by have := Hs0.out; show w.heap.size < _; omega)).trans Hc0.out
  have HCl := Lib.hid (clone9_any A cp l w2 (HA0.out.to Hb2.out) hl (fun t ht => (HW.out t ht).2.1))
  go_wp2_with fail
  refine HCl.out.mono ?_
  rintro e w3 ⟨A', cap', l', Bc, he, hO3, hp3, hlen, hbw3⟩
  rw [← hlen] at he hO3
  subst he
  have Hb3 := Lib.hid (bthen Hb2.out hbw3)
  clear c0
  obtain ⟨w4, hw4, hb4, hc4, hs4⟩ := box_one' w3 (.slice A' l'.length cap') 37
  have Hbx4 : Hid (w4.heap[w3.heap.size]? = some (.cells #[.slice A' l'.length cap'] 37 (0, 0))) := by rw [← hw4]; exact heap_alloc_new w3 _
  have Hw4 := Lib.hid hw4
  have Hb4 := Lib.hid (bthen Hb3.out hb4)
  have Hin := Lib.hid (fun k hk => hO3.lt k hk)
  obtain ⟨Bc4, hO4, hBc4⟩ := (hO3.below hb4).low (Nat.le_trans hbw3.size hb4.size) (fun t ht => by
    have h1 : t.p ∈ l.map Tb.p := by rw [← hp3]; exact List.mem_map.2 ⟨t, ht, rfl⟩
    exact (HRl.out.2.1 t.p h1).2.2.2.1)
  have HO4 := Lib.hid hO4
  have HBcw := Lib.hid hBc4
  clear hO4 hBc4
  have Hsz3 := Lib.hid hbw3.size
  have Hb24 := Lib.hid (bthen hbw3 hb4)
  have Hsz4 := Lib.hid hs4
  have H64 : Hid (∀ t ∈ l', W64 t.cols) := fun t ht => by
    have h1 : t.p ∈ l.map Tb.p := by rw [← hp3]; exact List.mem_map.2 ⟨t, ht, rfl⟩
    obtain ⟨u, hu, e⟩ := List.mem_map.1 h1
    have e2 : u.cols = t.cols := congrArg Tp.cols e
    rw [← e2]
    intro c hc
    exact ((HW.out u hu).2.2.2 c hc).2
  have Hp3 := Lib.hid hp3
  clear hw4 hb4 hc4 hs4 hO3 hp3 hlen hbw3
  have HCh := Lib.hid (change_any w3.heap.size A' cap' l' d id w4 w2.heap.size Bc4 (HT.out.below Hb4.out (Nat.le_refl _)) HO4.out Hbx4.out (fun h => by have := (Hin.out _ h).2; omega) (HD0.out.to Hb4.out) HBcw.out (by rw [Hp3.out]; exact HRl.out) H64.out Hop.out Hd.out.1 Hd.out.2.1 Hd.out.2.2.1 (fun c hc => (Hd.out.2.2.2.2.2.2 c hc).1))
  rw [Hp3.out, ← He.out] at HCh
  rw [← Hw4.out] at HCh
  obtain ⟨x0, x1, x2, x3, x4, x5, x6, x7, x8, x9, x10, x11⟩ := (HX.out.below Hb3.out (by have := Hs0.out; omega)).ddl
  have k0 := fun o => keep_alloc x0 o
  have k1 := fun o => keep_alloc x1 o
  have k2 := fun o => keep_alloc x2 o
  have k3 := fun o => keep_alloc x3 o
  have k4 := fun o => keep_alloc x4 o
  have k5 := fun o => keep_alloc x5 o
  have k6 := fun o => keep_alloc x6 o
  have k7 := fun o => keep_alloc x7 o
  have k8 := fun o => keep_alloc x8 o
  have k9 := fun o => keep_alloc x9 o
  have k10 := fun o => keep_alloc x10 o
  have k11 := fun o => keep_alloc x11 o
  go_wp2_with fail
  refine HCh.out.mono ?_
  rintro e w5 ⟨rfl, hof, hok⟩
  rw [Hw4.out] at hof
  clear x0 x1 x2 x3 x4 x5 x6 x7 x8 x9 x10 x11 k0 k1 k2 k3 k4 k5 k6 k7 k8 k9 k10 k11
  have Hof := Lib.hid hof
  have Hok := Lib.hid hok
  clear hof hok
  have Hb5 : Hid (Below w2.heap.size w2 w5) := by
    have h1 : Below w2.heap.size w4 w5 := Hof.out.below (fun x _ e => by
      rcases e with e | e
      · exact (Hin.out x e).1
      · have := Hsz3.out; omega) (by have := Hsz3.out; have := Hsz4.out; omega)
    exact Hb24.out.trans h1
  have Hb5w : Hid (Below w0.heap.size w0 w5) := bthen Hb2.out Hb5.out
  obtain ⟨z0, z1⟩ := HRes.out w5 Hb5w.out
  have Hz0 := Lib.hid z0
  by_cases hE0 : E = 0
  · obtain ⟨A6, cap6, l6, hc6, hcat, hl6⟩ := Hok.out hE0
    have HOr : Hid (O = applyR (l.map Tb.p) d.p id) := by show _ = _; rw [← HOo.out]; unfold applyO; rw [HE.out, if_pos hE0]
    have hq : (E == 0) = true := by rw [beq_iff_eq]; exact hE0
    have hq2 : (E != 0) = false := by rw [bne, hq]; rfl
    have HE0 := Lib.hid hE0
    have Hcat := Lib.hid hcat
    have Hl6 := Lib.hid hl6
    have Hne : Hid (CatAt (w5.setCell ⟨w.heap.size + 2, 0, none⟩ (.slice A6 l6.length cap6)) A6 cap6 l6) := hcat.put ((Hb5w.out.block (w.heap.size + 2) (by have := Hs0.out; omega)).trans Hr0.out) _
    have HbE := Lib.hid (Hput.out w5 (.slice A6 l6.length cap6) (bthen Hb0.out Hb5w.out))
    clear hE0 hcat hl6
    go_wp2_with fail
    refine bodyPost_ret (results_c2 rfl _ _ rfl (World.cell?_setCell_same _ _ _ Hz0.out)) rfl ?_
    exact ⟨A6, cap6, l6, by rw [HE0.out]; rfl, Hne.out, by rw [Hl6.out, HOr.out], HbE.out⟩
  · have hq : (E == 0) = false := by rw [beq_eq_false_iff_ne]; exact hE0
    have hq2 : (E != 0) = true := by rw [bne, hq]; rfl
    have HB := Lib.hid (Hbad.out (w5.setCell ⟨w.heap.size + 2, 0, none⟩ (.slice none 0 0)) hE0 (Hput.out _ _ (bthen Hb0.out Hb5w.out)))
    clear hE0
    go_wp2_with fail
    refine bodyPost_ret (results_c2 rfl _ _ rfl (World.cell?_setCell_same _ _ _ Hz0.out)) rfl ?_
    exact HB.out
end Go.Proofs.YtlbdbaafmdikcaaGreatDoor

/-
  Rows of strings that rise, each once, plainly. It speaks of no program.
-/
namespace Go.Proofs.YtlbdbaafmdikcaaGreatDoor

/-- the first stands ahead of the second -/
def ltB (a b : ByteArray) : Prop := ordN (bs a) (bs b) < 0
theorem ltB_irrefl (a : ByteArray) : ¬ ltB a a := by unfold ltB; rw [ordN_self]; decide
theorem ltB_trans {a b c : ByteArray} (h : ltB a b) (h2 : ltB b c) : ltB a c := ordN_trans h h2
theorem ltB_total {a b : ByteArray} (h : ¬ ltB a b) (hne : a ≠ b) : ltB b a := by
  unfold ltB at *
  have h1 := ordN_turn (bs a) (bs b)
  have h2 : ordN (bs a) (bs b) ≠ 0 := fun h3 => hne (bs_eq (ordN_zero h3))
  omega
theorem ltB_asymm {a b : ByteArray} (h : ltB a b) : ¬ ltB b a := fun h2 => ltB_irrefl a (ltB_trans h h2)
/-- rising, each once -/
def Rise (l : List ByteArray) : Prop := l.Pairwise ltB
/-- the strings of zs, rising, each once -/
def Srt (zs l : List ByteArray) : Prop := Rise l ∧ ∀ x, x ∈ l ↔ x ∈ zs
theorem rise_eq : ∀ {l m : List ByteArray}, Rise l → Rise m → (∀ x, x ∈ l ↔ x ∈ m) → l = m
  | [], [], _, _, _ => rfl
  | [], b :: m, _, _, h => by have := (h b).2 (by simp); simp at this
  | a :: l, [], _, _, h => by have := (h a).1 (by simp); simp at this
  | a :: l, b :: m, h1, h2, h => by
    obtain ⟨h3, h4⟩ := List.pairwise_cons.1 h1
    obtain ⟨h5, h6⟩ := List.pairwise_cons.1 h2
    have hab : a = b := by
      rcases List.mem_cons.1 ((h a).1 (by simp)) with e | e
      · exact e
      · rcases List.mem_cons.1 ((h b).2 (by simp)) with e2 | e2
        · exact e2.symm
        · exact absurd (h3 b e2) (ltB_asymm (h5 a e))
    subst hab
    have : l = m := by
      refine rise_eq h4 h6 fun x => ⟨fun hx => ?_, fun hx => ?_⟩
      · rcases List.mem_cons.1 ((h x).1 (List.mem_cons_of_mem _ hx)) with e | e
        · exact absurd (h3 x hx) (by rw [e]; exact ltB_irrefl _)
        · exact e
      · rcases List.mem_cons.1 ((h x).2 (List.mem_cons_of_mem _ hx)) with e | e
        · exact absurd (h5 x hx) (by rw [e]; exact ltB_irrefl _)
        · exact e
    rw [this]
theorem Srt.unique {zs l m : List ByteArray} (h : Srt zs l) (h2 : Srt zs m) : l = m := rise_eq h.1 h2.1 fun x => (h.2 x).trans (h2.2 x).symm

/-- the search for x's place has come to place k -/
def Ins (out : List ByteArray) (x : ByteArray) (k at' : Nat) (th : Bool) : Prop :=
  at' ≤ k ∧ (∀ j (h : j < out.length), j < at' → ltB out[j] x) ∧ (∀ j (h : j < out.length), at' ≤ j → j < k → ¬ ltB out[j] x) ∧ (th = true ↔ ∃ j, ∃ h : j < out.length, j < k ∧ out[j] = x)
theorem Ins.start (out : List ByteArray) (x : ByteArray) : Ins out x 0 0 false :=
  ⟨Nat.le_refl _, fun _ _ h => absurd h (by omega), fun _ _ _ h => absurd h (by omega), by simp⟩
theorem Ins.less {out : List ByteArray} {x : ByteArray} {k at' : Nat} {th : Bool} (hR : Rise out) (h : Ins out x k at' th) (hk : k < out.length) (hl : ltB out[k] x) : Ins out x (k + 1) (k + 1) th := by
  refine ⟨Nat.le_refl _, fun j hj h1 => ?_, fun j _ h1 h2 => absurd h2 (by omega), h.2.2.2.trans ⟨?_, ?_⟩⟩
  · by_cases e : j = k
    · subst e; exact hl
    · exact ltB_trans (List.pairwise_iff_getElem.1 hR j k hj hk (by omega)) hl
  · rintro ⟨j, h1, h2, h3⟩; exact ⟨j, h1, by omega, h3⟩
  · rintro ⟨j, h1, h2, h3⟩
    by_cases e : j = k
    · subst e; rw [h3] at hl; exact absurd hl (ltB_irrefl _)
    · exact ⟨j, h1, by omega, h3⟩
theorem Ins.not {out : List ByteArray} {x : ByteArray} {k at' : Nat} {th : Bool} (h : Ins out x k at' th) (hk : k < out.length) (hl : ¬ ltB out[k] x) (b : Bool) (hb : b = true ↔ th = true ∨ out[k] = x) : Ins out x (k + 1) at' b := by
  refine ⟨by have := h.1; omega, h.2.1, fun j hj h1 h2 => ?_, hb.trans ⟨?_, ?_⟩⟩
  · by_cases e : j = k
    · subst e; exact hl
    · exact h.2.2.1 j hj h1 (by omega)
  · rintro (h1 | h1)
    · obtain ⟨j, h2, h3, h4⟩ := h.2.2.2.1 h1; exact ⟨j, h2, by omega, h4⟩
    · exact ⟨k, hk, by omega, h1⟩
  · rintro ⟨j, h1, h2, h3⟩
    by_cases e : j = k
    · subst e; exact .inr h3
    · exact .inl (h.2.2.2.2 ⟨j, h1, by omega, h3⟩)
theorem Ins.there {out zs : List ByteArray} {x : ByteArray} {at' : Nat} {k : Nat} (h : Ins out x k at' true) (hS : Srt zs out) (zs' : List ByteArray) (hz : ∀ y, y ∈ zs' ↔ y ∈ zs ∨ y = x) : Srt zs' out := by
  refine ⟨hS.1, fun y => ?_⟩
  rw [hz, ← hS.2]
  constructor
  · exact .inl
  · rintro (h1 | h1)
    · exact h1
    · obtain ⟨j, h2, _, h4⟩ := h.2.2.2.1 rfl
      rw [h1, ← h4]; exact List.getElem_mem h2
theorem Ins.put {out zs : List ByteArray} {x : ByteArray} {at' : Nat} {k : Nat} (hk : k = out.length) (h : Ins out x k at' false) (hS : Srt zs out) (zs' : List ByteArray) (hz : ∀ y, y ∈ zs' ↔ y ∈ zs ∨ y = x) : Srt zs' (out.take at' ++ [x] ++ out.drop at') := by
  subst hk
  have hR := hS.1
  have hR2 := hR
  unfold Rise at hR2
  rw [← List.take_append_drop at' out] at hR2
  obtain ⟨h1, h2, h3⟩ := List.pairwise_append.1 hR2
  have hlow : ∀ y ∈ out.take at', ltB y x := fun y hy => by
    obtain ⟨j, hj, rfl⟩ := List.mem_iff_getElem.1 hy
    rw [List.getElem_take]
    simp at hj
    exact h.2.1 j (by omega) (by omega)
  have hhigh : ∀ y ∈ out.drop at', ltB x y := fun y hy => by
    obtain ⟨j, hj, rfl⟩ := List.mem_iff_getElem.1 hy
    rw [List.getElem_drop]
    simp at hj
    refine ltB_total (h.2.2.1 (at' + j) (by omega) (by omega) (by omega)) fun e => ?_
    have := h.2.2.2.2 ⟨at' + j, by omega, by omega, e⟩
    cases this
  refine ⟨?_, fun y => ?_⟩
  · show ((out.take at' ++ [x]) ++ out.drop at').Pairwise ltB
    rw [List.append_assoc]
    refine List.pairwise_append.2 ⟨h1, List.pairwise_append.2 ⟨List.pairwise_singleton _ _, h2, fun a ha b hb => ?_⟩, fun a ha b hb => ?_⟩
    · simp at ha; subst ha; exact hhigh b hb
    · rcases List.mem_append.1 hb with hb | hb
      · simp at hb; subst hb; exact hlow a ha
      · exact h3 a ha b hb
  · rw [hz, ← hS.2]
    have e : y ∈ out ↔ y ∈ out.take at' ∨ y ∈ out.drop at' := by rw [← List.mem_append, List.take_append_drop]
    rw [e]
    simp only [List.mem_append, List.mem_singleton]
    constructor
    · rintro ((a | a) | a)
      · exact .inl (.inl a)
      · exact .inr a
      · exact .inl (.inr a)
    · rintro ((a | a) | a)
      · exact .inl (.inl a)
      · exact .inr a
      · exact .inl (.inr a)

/-- slices.Compact of what never falls: rising, each once -/
theorem compact_upto (d : Array (List UInt8)) (hs : ∀ i j, i < j → j < d.size → ¬ ordN d[j]! d[i]! < 0) : ∀ m, m ≤ d.size →
    (Lib.compactUpTo d m).Pairwise (fun a b => ordN a b < 0) ∧ (∀ x, x ∈ Lib.compactUpTo d m ↔ ∃ j, j < m ∧ d[j]! = x) ∧ ∀ y ∈ Lib.compactUpTo d m, y = d[m - 1]! ∨ ordN y d[m - 1]! < 0
  | 0, _ => by
    have e : Lib.compactUpTo d 0 = [] := rfl
    rw [e]
    exact ⟨List.Pairwise.nil, by simp, by simp⟩
  | m + 1, hm => by
    obtain ⟨h1, h2, h3⟩ := compact_upto d hs m (by omega)
    rw [Lib.compactUpTo_succ]
    by_cases hk : Lib.keeps d m = true
    · rw [if_pos hk]
      have hlt : ∀ y ∈ Lib.compactUpTo d m, ordN y d[m]! < 0 := fun y hy => by
        obtain ⟨j, hj, _⟩ := (h2 y).1 hy
        have hne : d[m]! ≠ d[m - 1]! := by
          simp only [Lib.keeps, decide_eq_true_eq] at hk
          rcases hk with hk | hk
          · omega
          · exact hk
        have hl : ordN d[m - 1]! d[m]! < 0 := by
          have h4 := hs (m - 1) m (by omega) (by omega)
          have h5 := ordN_turn d[m]! d[m - 1]!
          have h6 : ordN d[m]! d[m - 1]! ≠ 0 := fun e => hne (ordN_zero e)
          omega
        rcases h3 y hy with e | e
        · rw [e]; exact hl
        · exact ordN_trans e hl
      refine ⟨List.pairwise_append.2 ⟨h1, List.pairwise_singleton _ _, fun a ha b hb => ?_⟩, fun x => ?_, fun y hy => ?_⟩
      · simp at hb; subst hb; exact hlt a ha
      · rw [List.mem_append, h2, List.mem_singleton]
        constructor
        · rintro (⟨j, hj, e⟩ | e)
          · exact ⟨j, by omega, e⟩
          · exact ⟨m, by omega, e.symm⟩
        · rintro ⟨j, hj, e⟩
          by_cases hjm : j = m
          · subst hjm; exact .inr e.symm
          · exact .inl ⟨j, by omega, e⟩
      · rw [Nat.add_sub_cancel]
        rcases List.mem_append.1 hy with hy | hy
        · exact .inr (hlt y hy)
        · simp at hy; exact .inl hy
    · have hk' : Lib.keeps d m = false := by simpa using hk
      rw [if_neg hk, List.append_nil]
      have hk2 : ¬ (m = 0) ∧ d[m]! = d[m - 1]! := by
        simp only [Lib.keeps, decide_eq_false_iff_not, not_or, ne_eq, Decidable.not_not] at hk'
        exact hk'
      refine ⟨h1, fun x => ?_, fun y hy => ?_⟩
      · rw [h2]
        constructor
        · rintro ⟨j, hj, e⟩; exact ⟨j, by omega, e⟩
        · rintro ⟨j, hj, e⟩
          by_cases hjm : j = m
          · subst hjm; exact ⟨j - 1, by omega, by rw [← hk2.2]; exact e⟩
          · exact ⟨j, by omega, e⟩
      · rw [Nat.add_sub_cancel, hk2.2]; exact h3 y hy
/-- strings of lists -/
def baL (l : List (List UInt8)) : List ByteArray := l.map fun x => ⟨x.toArray⟩
theorem compact_srt (ys : List (List UInt8)) (zs : List ByteArray) (hs : ∀ i j, i < j → j < ys.length → ¬ ordN ys.toArray[j]! ys.toArray[i]! < 0) (hm : ∀ x, x ∈ ys ↔ (⟨x.toArray⟩ : ByteArray) ∈ zs) : Srt zs (baL (Lib.compact ys)) := by
  obtain ⟨h1, h2, _⟩ := compact_upto ys.toArray (fun i j hi hj => hs i j hi (by simpa using hj)) ys.length (by simp)
  have h1' : (Lib.compact ys).Pairwise (fun a b => ordN a b < 0) := h1
  have h2' : ∀ x, x ∈ Lib.compact ys ↔ x ∈ ys := fun x => by
    refine (h2 x).trans ⟨?_, ?_⟩
    · rintro ⟨j, hj, e⟩
      rw [getElem!_pos _ j (by simpa using hj)] at e
      rw [← e]; simp
    · intro hx
      obtain ⟨j, hj, e⟩ := List.mem_iff_getElem.1 hx
      exact ⟨j, hj, by rw [getElem!_pos _ j (by simpa using hj)]; simpa using e⟩
  refine ⟨?_, fun x => ?_⟩
  · exact List.pairwise_map.2 (h1'.imp fun h => h)
  · constructor
    · intro hx
      obtain ⟨y, hy, rfl⟩ := List.mem_map.1 hx
      exact (hm y).1 ((h2' y).1 hy)
    · intro hx
      refine List.mem_map.2 ⟨bs x, (h2' _).2 ((hm _).2 ?_), ?_⟩
      · exact hx
      · rfl
end Go.Proofs.YtlbdbaafmdikcaaGreatDoor

/-
  Rows of strings that a call makes by itself, and slices of strings that lie somewhere.
-/
namespace Go.Proofs.YtlbdbaafmdikcaaGreatDoor
open Go.RowKit

theorem infoStr : (Tryz.prog.info? 9).map (fun i => (i.zero, i.size, i.bytes)) = some (some (.string ByteArray.empty), 1, 16) := by kernel_rfl
/-- strings as cells -/
def SV (l : List ByteArray) : List Value := l.map fun s => Value.string s
theorem SV_append (a b : List ByteArray) : SV (a ++ b) = SV a ++ SV b := List.map_append
theorem SV_length (a : List ByteArray) : (SV a).length = a.length := List.length_map _
/-- the slice value v is a row of the call's own, from block base on, and holds the strings l -/
def OwnS (w : World) (base : Nat) (v : Value) (l : List ByteArray) : Prop := w.ownsRow base 9 1 v l.length (SV l)
theorem OwnS.nil (w : World) (base : Nat) : OwnS w base (.slice none 0 0) [] := World.ownsRow_nil _ _ _ _
theorem OwnS.below {w w' : World} {base : Nat} {v : Value} {l : List ByteArray} (h : OwnS w base v l) (hb : Below w.heap.size w w') : OwnS w' base v l := owns_below h hb
theorem OwnS.alloc {w : World} {base : Nat} {v : Value} {l : List ByteArray} (h : OwnS w base v l) (o : Obj) : OwnS (w.alloc o) base v l := World.ownsRow.alloc h o
theorem OwnS.mono {w : World} {base base' : Nat} {v : Value} {l : List ByteArray} (h : OwnS w base v l) (hb : base' ≤ base) : OwnS w base' v l := by
  refine ⟨h.1, ?_⟩
  rcases h.2 with ⟨h1, h2⟩ | ⟨g, cap, cur, h1, h2, h3⟩
  · exact .inl ⟨h1, h2⟩
  · exact .inr ⟨g, cap, cur, h1, Nat.le_trans hb h2, h3⟩
theorem OwnS.form {w : World} {base : Nat} {v : Value} {l : List ByteArray} (h : OwnS w base v l) : (v = .slice none 0 0 ∧ l = []) ∨ ∃ g cap, v = .slice (some ⟨g, 0, none⟩) l.length cap ∧ base ≤ g ∧ g < w.heap.size ∧ l.length ≤ cap ∧ ∀ j (hj : j < l.length), w.cell? ⟨g, j, none⟩ = some (.string l[j]) := by
  rcases h.2 with ⟨h1, h2⟩ | ⟨g, cap, cur, h1, h2, h3, h4⟩
  · exact .inl ⟨h1, List.eq_nil_of_length_eq_zero h2⟩
  · refine .inr ⟨g, cap, h1, h2, (Array.getElem?_eq_some_iff.1 h3).1, h4.1, fun j hj => ?_⟩
    subst h1
    have := World.ownsRow.cells h (g := g) rfl j (.string l[j]) (by simp [SV, hj])
    simpa [Addr.add_lit] using this

/-- a slice of strings that lies below block B -/
def StrsAt (w : World) (B : Nat) (A : Option Addr) (ss : List ByteArray) : Prop :=
  0 < ss.length → ∃ b off, A = some ⟨b, off, none⟩ ∧ b < B ∧ ∀ j (hj : j < ss.length), w.cell? ⟨b, off + j, none⟩ = some (.string ss[j])
theorem StrsAt.of_own {w : World} {base : Nat} {v : Value} {ss : List ByteArray} (h : OwnS w base v ss) : ∃ A c, v = .slice A ss.length c ∧ StrsAt w w.heap.size A ss := by
  rcases h.form with ⟨rfl, rfl⟩ | ⟨g, cap, rfl, _, hg, _, hc⟩
  · exact ⟨none, 0, rfl, fun hp => absurd hp (by simp)⟩
  · exact ⟨some ⟨g, 0, none⟩, cap, rfl, fun _ => ⟨g, 0, rfl, hg, fun j hj => by rw [Nat.zero_add]; exact hc j hj⟩⟩
theorem StrsAt.of_own1 {w : World} {base : Nat} {A : Option Addr} {c : Nat} {ss : List ByteArray} (h : OwnS w base (.slice A ss.length c) ss) : StrsAt w w.heap.size A ss := by
  obtain ⟨A', c', h1, h2⟩ := StrsAt.of_own h
  cases h1
  exact h2
theorem StrsAt.below {w w' : World} {B : Nat} {A : Option Addr} {ss : List ByteArray} (h : StrsAt w B A ss) (hb : Below B w w') : StrsAt w' B A ss := fun hl => by
  obtain ⟨b, off, rfl, h1, h2⟩ := h hl
  exact ⟨b, off, rfl, h1, fun j hj => (hb.cell (p := ⟨b, off + j, none⟩) h1).trans (h2 j hj)⟩
theorem StrsAt.more {w : World} {B B' : Nat} {A : Option Addr} {ss : List ByteArray} (h : StrsAt w B A ss) (hB : B ≤ B') : StrsAt w B' A ss := fun hl => by
  obtain ⟨b, off, rfl, h1, h2⟩ := h hl
  exact ⟨b, off, rfl, by omega, h2⟩
theorem StrsAt.take {w : World} {B : Nat} {A : Option Addr} {ss : List ByteArray} (h : StrsAt w B A ss) (n : Nat) : StrsAt w B A (ss.take n) := fun hl => by
  obtain ⟨b, off, rfl, h1, h2⟩ := h (by simp at hl; omega)
  refine ⟨b, off, rfl, h1, fun j hj => ?_⟩
  simp at hj
  rw [List.getElem_take]
  exact h2 j (by omega)

/-- strings come in -/
def StrsIn (w : World) (a : Option Addr) (len cap : Nat) (ss : List ByteArray) : Prop :=
  (a = none ∧ len = 0 ∧ cap = 0 ∧ ss = []) ∨
  ∃ x, a = some x ∧ len ≤ cap ∧ cap ≤ maxLen ∧ ss.length = cap ∧ (∀ i, i < ss.length → w.cell? (x.add i) = some (.string (ss.getD i ByteArray.empty))) ∧ ∀ s ∈ ss, s.size ≤ maxLen
theorem strs_of {w : World} {a : Option Addr} {len cap : Nat} {ss : List ByteArray} (h : StrsIn w a len cap ss) :
    ∃ zs : List ByteArray, zs.length = len ∧ StrsAt w w.heap.size a zs ∧ (∀ s ∈ zs, s.size ≤ maxLen) ∧ len ≤ maxLen := by
  rcases h with ⟨rfl, rfl, rfl, rfl⟩ | ⟨x, rfl, h1, h2, h3, h4, h5⟩
  · exact ⟨[], rfl, fun h => absurd h (by simp), by simp, Nat.zero_le _⟩
  · refine ⟨ss.take len, by simp; omega, fun h => ?_, fun s hs => h5 s (List.mem_of_mem_take hs), by omega⟩
    simp at h
    obtain ⟨b, off, sp⟩ := x
    obtain rfl : sp = none := by simpa [Addr.add] using World.cell?_spot (h4 0 (by omega))
    have h0 := h4 0 (by omega)
    rw [Addr.add_lit] at h0
    refine ⟨b, off, rfl, World.block_lt_of_cell? w ⟨b, off + 0, none⟩ h0, fun j hj => ?_⟩
    simp at hj
    have := h4 j (by omega)
    rw [List.getElem_take]
    rw [Addr.add_lit, List.getD_eq_getElem?_getD, List.getElem?_eq_getElem (by omega)] at this
    exact this

/-- strings that lie somewhere appended to a row of the call's own, as one step of a region that draws -/
theorem step_append_strs {w : World} {ops : Array Oper} {o : Oper} {a : Act} {K : Act → World → Prop} {Q : Exit → Act → World → Prop} {E : Prop} (hgd : o.guard = none) (s x : Operand)
    (ho : o.op = .call { callee := .builtin .append, args := #[s, x], argTypes := #[32, 32] })
    (base : Nat) (v : Value) (l : List ByteArray) (A : Option Addr) (m c : Nat) (ts : List ByteArray)
    (hown : OwnS w base v l) (hs : a.eval s = v) (hx : a.eval x = .slice A m c) (hm : m = ts.length) (hA : A = none → c = 0) (hts : StrsAt w w.heap.size A ts) (hlen : l.length + ts.length < 1099511627776) (hbase : base ≤ w.heap.size)
    (h : ∀ v' w', OwnS w' base v' (l ++ ts) → w.grownBy w' v.ownBlock → K (a.put o.dst v') w') :
    if Region.wanted o (yielded ops a.tmps) = true then Oper.wp Tryz.prog o a w K Q else E := by
  subst hm
  have hw : Region.wanted o (yielded ops a.tmps) = true := by simp [Region.wanted, hgd]
  rw [if_pos hw]
  obtain ⟨i0, hi, hz0, hz1, hz2⟩ := info_parts infoStr
  obtain ⟨v', w', hrun, h1, h2⟩ : ∃ v' w', (Builtin.append_ #[32, 32] o.type #[v, .slice A ts.length c]).run Tryz.prog w = .ok v' w' ∧ OwnS w' base v' (l ++ ts) ∧ w.grownBy w' v.ownBlock := by
    cases A with
    | none =>
      have hl : ts = [] := by
        cases ts with
        | nil => rfl
        | cons y r =>
          obtain ⟨_, _, h3, _⟩ := hts (by simp)
          cases h3
      subst hl
      obtain rfl := hA rfl
      refine ⟨v, w, run_append_owned_none w base 32 o.type 9 i0 1 Tryz.underlying32 hi v l.length (SV l) hown, by rw [List.append_nil]; exact hown, ⟨rfl, rfl, rfl, Nat.le_refl _, fun _ _ _ => rfl⟩⟩
    | some ad =>
      obtain ⟨v', w', hrun, h1, h2, _⟩ := run_append_own (P := Tryz.prog) w base 32 o.type 9 i0 (.string ByteArray.empty) 1 16 Tryz.underlying32 hi hz0 hz1 hz2 rfl (by decide) v l.length (SV l) hown ad ts.length c (SV ts) (by rw [SV_length, Nat.mul_one])
        (fun j u hj => by
          simp only [SV, List.getElem?_map, Option.map_eq_some_iff] at hj
          obtain ⟨y, hy, rfl⟩ := hj
          obtain ⟨hj, rfl⟩ := List.getElem?_eq_some_iff.1 hy
          obtain ⟨b, off, h3, h4, h5⟩ := hts (by omega)
          cases h3
          rw [Addr.add_lit]
          exact h5 j hj)
        (fun u hu => by
          simp only [SV, List.mem_map] at hu
          obtain ⟨y, _, rfl⟩ := hu
          rfl) (by unfold maxLen; omega) (by omega) hbase
      refine ⟨v', w', hrun, ?_, h2⟩
      unfold OwnS
      rw [SV_append, List.length_append]
      exact h1
  unfold Oper.wp
  simp [execOp, ho, resolve, invoke, builtin, hs, hx, hrun, Result.andThen]
  exact h v' w' h1 h2
/-- a literal row without elements, with another block made behind it or ahead of it -/
theorem own0_a (w : World) : OwnS (w.alloc (.cells #[] 9)).drew w.heap.size (.slice (some ⟨w.heap.size, 0, none⟩) 0 0) [] := World.ownsRow_lit w #[] 0 (Nat.le_refl _) (Nat.zero_le _) rfl
theorem own0_d (w : World) (o : Obj) : OwnS ((w.alloc (.cells #[] 9)).alloc o).drew w.heap.size (.slice (some ⟨w.heap.size, 0, none⟩) 0 0) [] := World.ownsRow.alloc (World.ownsRow_lit w #[] 0 (Nat.le_refl _) (Nat.zero_le _) rfl) o
theorem own0_f (w : World) (o : Obj) : OwnS ((w.alloc o).alloc (.cells #[] 9)).drew w.heap.size (.slice (some ⟨w.heap.size + 1, 0, none⟩) 0 0) [] := by
  have h := World.ownsRow_lit (base := w.heap.size) (e := 9) (size := 1) (w.alloc o) #[] 0 (by simp) (Nat.zero_le _) rfl
  rw [show (w.alloc o).heap.size = w.heap.size + 1 by simp] at h
  exact h
theorem below_grown {B base : Nat} {a w w' : World} {v : Value} {l : List ByteArray} (h : Below B a w) (ho : OwnS w base v l) (hg : w.grownBy w' v.ownBlock) (hB : B ≤ base) (hs : B ≤ w.heap.size) : Below B a w' :=
  h.grown hg hs (fun k hk => Nat.le_trans hB ((World.ownsRow.lt ho) k hk).1)
theorem cell_grownBy {w w' : World} {r : Option Nat} (hg : w.grownBy w' r) (p : Addr) (hp : p.block < w.heap.size) (hn : some p.block ≠ r) : w'.cell? p = w.cell? p := World.cell?_of_block (hg.block p.block hp hn)
theorem strs_one {w : World} {b1 : Nat} {x : ByteArray} (hc : w.cell? ⟨b1, 0, none⟩ = some (.string x)) : StrsAt w w.heap.size (some ⟨b1, 0, none⟩) [x] := fun _ =>
  ⟨b1, 0, rfl, World.block_lt_of_cell? w ⟨b1, 0, none⟩ hc, fun j hj => by
    obtain rfl : j = 0 := by simp at hj; omega
    exact hc⟩
theorem StrsAt.drop {w : World} {B g o : Nat} {ss : List ByteArray} (h : StrsAt w B (some ⟨g, o, none⟩) ss) (n : Nat) : StrsAt w B (some ⟨g, o + n, none⟩) (ss.drop n) := fun hl => by
  simp at hl
  obtain ⟨b, off, he, h1, h2⟩ := h (by omega)
  cases he
  refine ⟨g, o + n, rfl, h1, fun j hj => ?_⟩
  simp at hj
  rw [List.getElem_drop, Nat.add_assoc]
  exact h2 (n + j) (by omega)
theorem StrsAt.to {w w' : World} {A : Option Addr} {ss : List ByteArray} (h : StrsAt w w.heap.size A ss) (hb : Below w.heap.size w w') : StrsAt w' w'.heap.size A ss := (h.below hb).more hb.size
end Go.Proofs.YtlbdbaafmdikcaaGreatDoor

/-
  The layings of the library's contracts at this program, by the kit's own command, in plain words.
-/
namespace Go.Proofs.YtlbdbaafmdikcaaGreatDoor
open Go.Shelf
def lay_Lays2_n16_ren : Go.Shelf.Ren := ⟨fun | 16 => 36 | n => n, fun | 24 => 32 | 9 => 9 | 4 => 4 | n => n, fun | n => n⟩
theorem lay_Lays2_n16 : Go.Proofs.Lays2.n16 Tryz.prog lay_Lays2_n16_ren := {
  mixed := by kernel_rfl
  f16 := Tryz.func36.trans (congrArg some (by kernel_rfl))
  t4 := Tryz.underlying4
  a4 := Tryz.isAgg4
  z4 := Tryz.sizeOf4
  v4 := Tryz.zeroValue4
  t9 := Tryz.underlying9
  a9 := Tryz.isAgg9
  z9 := Tryz.sizeOf9
  v9 := Tryz.zeroValue9
  t24 := Tryz.underlying32
  a24 := Tryz.isAgg32
  z24 := Tryz.sizeOf32
  v24 := Tryz.zeroValue32
  i9 := by kernel_rfl }
def lay_Lays_n194_ren : Go.Shelf.Ren := ⟨fun | 194 => 39 | n => n, fun | 31 => 32 | 9 => 9 | 3 => 3 | 4 => 4 | 0 => 0 | n => n, fun | n => n⟩
theorem lay_Lays_n194 : Go.Proofs.Lays.n194 Tryz.prog lay_Lays_n194_ren := {
  mixed := by kernel_rfl
  f194 := Tryz.func39.trans (congrArg some (by kernel_rfl))
  t0 := Tryz.underlying0
  a0 := Tryz.isAgg0
  z0 := Tryz.sizeOf0
  v0 := Tryz.zeroValue0
  t3 := Tryz.underlying3
  a3 := Tryz.isAgg3
  z3 := Tryz.sizeOf3
  v3 := Tryz.zeroValue3
  t4 := Tryz.underlying4
  a4 := Tryz.isAgg4
  z4 := Tryz.sizeOf4
  v4 := Tryz.zeroValue4
  t9 := Tryz.underlying9
  a9 := Tryz.isAgg9
  z9 := Tryz.sizeOf9
  v9 := Tryz.zeroValue9
  t31 := Tryz.underlying32
  a31 := Tryz.isAgg32
  z31 := Tryz.sizeOf32
  v31 := Tryz.zeroValue32 }
def lay_SlLaysF0_n6_ren : Go.Shelf.Ren := ⟨fun | 6 => 37 | 15 => 58 | 14 => 57 | 28 => 90 | 29 => 91 | 20 => 82 | 21 => 83 | 22 => 84 | 23 => 85 | 24 => 86 | 25 => 87 | 26 => 88 | 27 => 89 | 46 => 114 | 47 => 115 | 48 => 116 | 49 => 117 | 50 => 118 | 57 => 137 | n => n, fun | 22 => 32 | 24 => 9 | 25 => 69 | 3 => 3 | 39 => 86 | 0 => 0 | 53 => 112 | 55 => 114 | 4 => 4 | 46 => 106 | 45 => 105 | 50 => 78 | 5 => 5 | 9 => 9 | 66 => 130 | 70 => 134 | 76 => 142 | 77 => 143 | n => n, fun | n => n⟩
theorem lay_SlLaysF0_n6 : Go.Proofs.SlLaysF0.n6 Tryz.prog lay_SlLaysF0_n6_ren := {
  mixed := by kernel_rfl
  f6 := ⟨Tryz.f37.name, by decide, Tryz.func37.trans (congrArg some (by kernel_rfl))⟩
  f14 := ⟨Tryz.f57.name, by decide, Tryz.func57.trans (congrArg some (by kernel_rfl))⟩
  f15 := Tryz.func58.trans (congrArg some (by kernel_rfl))
  f20 := ⟨Tryz.f82.name, by decide, Tryz.func82.trans (congrArg some (by kernel_rfl))⟩
  f21 := ⟨Tryz.f83.name, by decide, Tryz.func83.trans (congrArg some (by kernel_rfl))⟩
  f22 := ⟨Tryz.f84.name, by decide, Tryz.func84.trans (congrArg some (by kernel_rfl))⟩
  f23 := ⟨Tryz.f85.name, by decide, Tryz.func85.trans (congrArg some (by kernel_rfl))⟩
  f24 := ⟨Tryz.f86.name, by decide, Tryz.func86.trans (congrArg some (by kernel_rfl))⟩
  f25 := ⟨Tryz.f87.name, by decide, Tryz.func87.trans (congrArg some (by kernel_rfl))⟩
  f26 := ⟨Tryz.f88.name, by decide, Tryz.func88.trans (congrArg some (by kernel_rfl))⟩
  f27 := ⟨Tryz.f89.name, by decide, Tryz.func89.trans (congrArg some (by kernel_rfl))⟩
  f28 := Tryz.func90.trans (congrArg some (by kernel_rfl))
  f29 := Tryz.func91.trans (congrArg some (by kernel_rfl))
  f46 := ⟨Tryz.f114.name, by decide, Tryz.func114.trans (congrArg some (by kernel_rfl))⟩
  f47 := Tryz.func115.trans (congrArg some (by kernel_rfl))
  f48 := Tryz.func116.trans (congrArg some (by kernel_rfl))
  f49 := ⟨Tryz.f117.name, by decide, Tryz.func117.trans (congrArg some (by kernel_rfl))⟩
  f50 := ⟨Tryz.f118.name, by decide, Tryz.func118.trans (congrArg some (by kernel_rfl))⟩
  f57 := ⟨Tryz.f137.name, by decide, Tryz.func137.trans (congrArg some (by kernel_rfl))⟩
  t0 := Tryz.underlying0
  a0 := Tryz.isAgg0
  z0 := Tryz.sizeOf0
  v0 := Tryz.zeroValue0
  t3 := Tryz.underlying3
  a3 := Tryz.isAgg3
  z3 := Tryz.sizeOf3
  v3 := Tryz.zeroValue3
  t4 := Tryz.underlying4
  a4 := Tryz.isAgg4
  z4 := Tryz.sizeOf4
  v4 := Tryz.zeroValue4
  t5 := Tryz.underlying5
  a5 := Tryz.isAgg5
  z5 := Tryz.sizeOf5
  v5 := Tryz.zeroValue5
  t9 := Tryz.underlying9
  a9 := Tryz.isAgg9
  z9 := Tryz.sizeOf9
  v9 := Tryz.zeroValue9
  t22 := Tryz.underlying32
  a22 := Tryz.isAgg32
  z22 := Tryz.sizeOf32
  v22 := Tryz.zeroValue32
  t25 := Tryz.underlying69
  a25 := Tryz.isAgg69
  z25 := Tryz.sizeOf69
  v25 := Tryz.zeroValue69
  t39 := Tryz.underlying86
  a39 := Tryz.isAgg86
  z39 := Tryz.sizeOf86
  v39 := Tryz.zeroValue86
  t45 := Tryz.underlying105
  a45 := Tryz.isAgg105
  z45 := Tryz.sizeOf105
  v45 := Tryz.zeroValue105
  t46 := Tryz.underlying106
  a46 := Tryz.isAgg106
  z46 := Tryz.sizeOf106
  v46 := Tryz.zeroValue106
  t50 := Tryz.underlying78
  a50 := Tryz.isAgg78
  z50 := Tryz.sizeOf78
  v50 := Tryz.zeroValue78
  t53 := Tryz.underlying112
  a53 := Tryz.isAgg112
  z53 := Tryz.sizeOf112
  v53 := Tryz.zeroValue112
  t55 := Tryz.underlying114
  a55 := Tryz.isAgg114
  z55 := Tryz.sizeOf114
  v55 := Tryz.zeroValue114
  t66 := Tryz.underlying130
  a66 := Tryz.isAgg130
  z66 := Tryz.sizeOf130
  v66 := Tryz.zeroValue130
  t70 := Tryz.underlying134
  a70 := Tryz.isAgg134
  z70 := Tryz.sizeOf134
  v70 := Tryz.zeroValue134
  t76 := Tryz.underlying142
  a76 := Tryz.isAgg142
  z76 := Tryz.sizeOf142
  v76 := Tryz.zeroValue142
  t77 := Tryz.underlying143
  a77 := Tryz.isAgg143
  z77 := Tryz.sizeOf143
  v77 := Tryz.zeroValue143 }
def lay_SlLaysF_n6_ren : Go.Shelf.Ren := ⟨fun | 6 => 37 | 15 => 58 | 14 => 57 | 28 => 90 | 29 => 91 | 20 => 82 | 21 => 83 | 22 => 84 | 23 => 85 | 24 => 86 | 25 => 87 | 26 => 88 | 27 => 89 | 46 => 114 | 47 => 115 | 48 => 116 | 49 => 117 | 50 => 118 | 57 => 137 | n => n, fun | 22 => 32 | 24 => 9 | 25 => 69 | 3 => 3 | 39 => 86 | 0 => 0 | 53 => 112 | 55 => 114 | 4 => 4 | 46 => 106 | 45 => 105 | 50 => 78 | 5 => 5 | 9 => 9 | 66 => 130 | 70 => 134 | 76 => 142 | 77 => 143 | n => n, fun | n => n⟩
theorem lay_SlLaysF_n6 : Go.Proofs.SlLaysF.n6 Tryz.prog lay_SlLaysF_n6_ren := {
  mixed := by kernel_rfl
  f6 := ⟨Tryz.f37.name, by decide, Tryz.func37.trans (congrArg some (by kernel_rfl))⟩
  f14 := ⟨Tryz.f57.name, by decide, Tryz.func57.trans (congrArg some (by kernel_rfl))⟩
  f15 := Tryz.func58.trans (congrArg some (by kernel_rfl))
  f20 := ⟨Tryz.f82.name, by decide, Tryz.func82.trans (congrArg some (by kernel_rfl))⟩
  f21 := ⟨Tryz.f83.name, by decide, Tryz.func83.trans (congrArg some (by kernel_rfl))⟩
  f22 := ⟨Tryz.f84.name, by decide, Tryz.func84.trans (congrArg some (by kernel_rfl))⟩
  f23 := ⟨Tryz.f85.name, by decide, Tryz.func85.trans (congrArg some (by kernel_rfl))⟩
  f24 := ⟨Tryz.f86.name, by decide, Tryz.func86.trans (congrArg some (by kernel_rfl))⟩
  f25 := ⟨Tryz.f87.name, by decide, Tryz.func87.trans (congrArg some (by kernel_rfl))⟩
  f26 := ⟨Tryz.f88.name, by decide, Tryz.func88.trans (congrArg some (by kernel_rfl))⟩
  f27 := ⟨Tryz.f89.name, by decide, Tryz.func89.trans (congrArg some (by kernel_rfl))⟩
  f28 := Tryz.func90.trans (congrArg some (by kernel_rfl))
  f29 := Tryz.func91.trans (congrArg some (by kernel_rfl))
  f46 := ⟨Tryz.f114.name, by decide, Tryz.func114.trans (congrArg some (by kernel_rfl))⟩
  f47 := Tryz.func115.trans (congrArg some (by kernel_rfl))
  f48 := Tryz.func116.trans (congrArg some (by kernel_rfl))
  f49 := ⟨Tryz.f117.name, by decide, Tryz.func117.trans (congrArg some (by kernel_rfl))⟩
  f50 := ⟨Tryz.f118.name, by decide, Tryz.func118.trans (congrArg some (by kernel_rfl))⟩
  f57 := ⟨Tryz.f137.name, by decide, Tryz.func137.trans (congrArg some (by kernel_rfl))⟩
  t0 := Tryz.underlying0
  a0 := Tryz.isAgg0
  z0 := Tryz.sizeOf0
  v0 := Tryz.zeroValue0
  t3 := Tryz.underlying3
  a3 := Tryz.isAgg3
  z3 := Tryz.sizeOf3
  v3 := Tryz.zeroValue3
  t4 := Tryz.underlying4
  a4 := Tryz.isAgg4
  z4 := Tryz.sizeOf4
  v4 := Tryz.zeroValue4
  t5 := Tryz.underlying5
  a5 := Tryz.isAgg5
  z5 := Tryz.sizeOf5
  v5 := Tryz.zeroValue5
  t9 := Tryz.underlying9
  a9 := Tryz.isAgg9
  z9 := Tryz.sizeOf9
  v9 := Tryz.zeroValue9
  t22 := Tryz.underlying32
  a22 := Tryz.isAgg32
  z22 := Tryz.sizeOf32
  v22 := Tryz.zeroValue32
  a24 := Tryz.isAgg9
  z24 := Tryz.sizeOf9
  t25 := Tryz.underlying69
  a25 := Tryz.isAgg69
  z25 := Tryz.sizeOf69
  v25 := Tryz.zeroValue69
  t39 := Tryz.underlying86
  a39 := Tryz.isAgg86
  z39 := Tryz.sizeOf86
  v39 := Tryz.zeroValue86
  t45 := Tryz.underlying105
  a45 := Tryz.isAgg105
  z45 := Tryz.sizeOf105
  v45 := Tryz.zeroValue105
  t46 := Tryz.underlying106
  a46 := Tryz.isAgg106
  z46 := Tryz.sizeOf106
  v46 := Tryz.zeroValue106
  t50 := Tryz.underlying78
  a50 := Tryz.isAgg78
  z50 := Tryz.sizeOf78
  v50 := Tryz.zeroValue78
  t53 := Tryz.underlying112
  a53 := Tryz.isAgg112
  z53 := Tryz.sizeOf112
  v53 := Tryz.zeroValue112
  t55 := Tryz.underlying114
  a55 := Tryz.isAgg114
  z55 := Tryz.sizeOf114
  v55 := Tryz.zeroValue114
  t66 := Tryz.underlying130
  a66 := Tryz.isAgg130
  z66 := Tryz.sizeOf130
  v66 := Tryz.zeroValue130
  t70 := Tryz.underlying134
  a70 := Tryz.isAgg134
  z70 := Tryz.sizeOf134
  v70 := Tryz.zeroValue134
  t76 := Tryz.underlying142
  a76 := Tryz.isAgg142
  z76 := Tryz.sizeOf142
  v76 := Tryz.zeroValue142
  t77 := Tryz.underlying143
  a77 := Tryz.isAgg143
  z77 := Tryz.sizeOf143
  v77 := Tryz.zeroValue143 }
end Go.Proofs.YtlbdbaafmdikcaaGreatDoor

/-
  Contracts of package name's Sorted, over the library's own contracts of slices.Clone, slices.SortFunc and slices.Compact.
-/
namespace Go.Proofs.YtlbdbaafmdikcaaGreatDoor
open Go.RowKit

theorem clone_any (A : Option Addr) (c : Nat) (zs : List ByteArray) (w : World) (hA : StrsAt w w.heap.size A zs) (hl : zs.length ≤ 1000000) :
    Calls Tryz.prog 36 #[.slice A zs.length c] w fun e w' => ∃ v, e = .returned v ∧ OwnS w' w.heap.size v zs ∧ Below w.heap.size w w' := by
  cases A with
  | none =>
    obtain rfl : zs = [] := by
      cases zs with
      | nil => rfl
      | cons y r => obtain ⟨_, _, h3, _⟩ := hA (by simp); cases h3
    refine (Any.slices_Clone_string_nil lay_Lays2_n16 0 c w).mono ?_
    rintro e w' ⟨rfl, rfl⟩
    exact ⟨_, rfl, OwnS.nil _ _, Below.refl _ _⟩
  | some a =>
    by_cases h0 : zs.length = 0
    · obtain rfl : zs = [] := List.eq_nil_of_length_eq_zero h0
      refine (Any.slices_Clone_string_zero lay_Lays2_n16 a c w).mono ?_
      rintro e w' ⟨v, rfl, h1, _, h3⟩
      exact ⟨_, rfl, h1, h3⟩
    · obtain ⟨b, off, h1, h2, h3⟩ := hA (by omega)
      cases h1
      refine (Any.slices_Clone_string lay_Lays2_n16 b off zs.length c zs w (Nat.le_refl _) (by omega) (fun j hj => ?_)).mono ?_
      · rw [h3 j hj, List.getD_eq_getElem?_getD, List.getElem?_eq_getElem hj]; rfl
      · rintro e w' ⟨v, rfl, h4, _, h5⟩
        rw [List.take_length] at h4
        exact ⟨_, rfl, h4, h5⟩

/-- a string as the sort sees it -/
def encM (l : List UInt8) : Value := .string ⟨(l.take 1000000).toArray⟩
def cfM (x y : List UInt8) : Int := ordN (x.take 1000000) (y.take 1000000)
theorem ltM_true {x y : List UInt8} : ltOf cfM x y = true ↔ ordN (x.take 1000000) (y.take 1000000) < 0 := ⟨fun h => of_decide_eq_true h, fun h => decide_eq_true h⟩
theorem ltM_false {x y : List UInt8} : ltOf cfM x y = false ↔ ¬ ordN (x.take 1000000) (y.take 1000000) < 0 := ⟨fun h => of_decide_eq_false h, fun h => decide_eq_false h⟩
theorem swoM : Sort.SWO (ltOf cfM) where
  irrefl := fun x => ltM_false.2 (by rw [ordN_self]; decide)
  trans := fun x y z h1 h2 => ltM_true.2 (ordN_trans (ltM_true.1 h1) (ltM_true.1 h2))
  ntrans := fun x y z h1 h2 => ltM_false.2 fun h3 => by
    have h1 := ltM_false.1 h1
    have h2 := ltM_false.1 h2
    have e1 := ordN_turn (x.take 1000000) (y.take 1000000)
    by_cases hy : ordN (x.take 1000000) (y.take 1000000) = 0
    · rw [ordN_zero hy] at h3; exact h2 h3
    · have h4 : ordN (y.take 1000000) (x.take 1000000) < 0 := by omega
      exact h2 (ordN_trans h4 h3)
theorem cmpM (blk off size : Nat) (w : World) : CmpReads Tryz.prog 38 #[] encM cfM blk off size w := fun m os dk _ x y => by
  have h := order_any ⟨(x.take 1000000).toArray⟩ ⟨(y.take 1000000).toArray⟩ (sortWorld encM w blk off m dk os) (by rw [ba_size]; exact List.length_take_le _ _) (by rw [ba_size]; exact List.length_take_le _ _)
  exact h

theorem compact_len (ys : List (List UInt8)) : (Lib.compact ys).length ≤ ys.length := by
  unfold Lib.compact Lib.compactUpTo
  rw [List.length_map]
  exact Nat.le_trans (List.length_filter_le _ _) (by simp)

theorem below_grow0 {B : Nat} {a w : World} (h : Below B a w) (hB : B ≤ w.heap.size) (os : Array Obj) : Below B a (Sort.grow w os) :=
  ⟨h.os, h.tape, h.output, by show _ ≤ (w.heap ++ os).size; rw [Array.size_append]; exact Nat.le_trans h.size (Nat.le_add_right _ _), fun k hk => by
    show (w.heap ++ os)[k]? = _
    rw [Array.getElem?_append_left (by omega)]; exact h.block k hk⟩

theorem perm_all {d d' : Array (List UInt8)} (h : Sort.PermIn 0 d.size d d') : d'.toList.Perm d.toList := by
  obtain ⟨h1, _, h3⟩ := h
  have e1 : d'.extract 0 d.size = d' := by rw [← h1]; simp
  have e2 : d.extract 0 d.size = d := by simp
  rwa [e1, e2] at h3
theorem take_small {l : List UInt8} (h : l.length ≤ 1000000) : l.take 1000000 = l := List.take_of_length_le h

/-- what the row holds behind the sort -/
theorem sort_any (g cap : Nat) (zs : List ByteArray) (w : World) (B : Nat) (hB : B ≤ g) (hg : g < w.heap.size) (hc : ∀ j (hj : j < zs.length), w.cell? ⟨g, j, none⟩ = some (.string zs[j])) (hf : ∀ j, w.frozen? ⟨g, j, none⟩ = false)
    (hl : zs.length ≤ 1000000) (hz : ∀ z ∈ zs, z.size ≤ 1000000) :
    Calls Tryz.prog 37 #[.slice (some ⟨g, 0, none⟩) zs.length cap, .func (.func 38) #[] #[]] w fun e w' => e = .returned (.tuple #[]) ∧
      ∃ ys : List (List UInt8), ys.length = zs.length ∧ Sort.Holds encStr w' g 0 ys.toArray ∧ (∀ i j, i < j → j < ys.length → ¬ ordN ys.toArray[j]! ys.toArray[i]! < 0) ∧ (∀ x, x ∈ ys ↔ (⟨x.toArray⟩ : ByteArray) ∈ zs) ∧ Below B w w' ∧ g < w'.heap.size := by
  have hd : ((zs.map bs).toArray).size = zs.length := by simp
  have hH : Sort.Holds encM w g 0 (zs.map bs).toArray := fun j hj => by
    have hj' : j < zs.length := by simpa using hj
    rw [Nat.zero_add]
    refine ⟨?_, hf j⟩
    rw [hc j hj', getElem!_pos _ j hj]
    have hs := hz zs[j] (List.getElem_mem hj')
    simp only [List.getElem_toArray, List.getElem_map]
    show some (Value.string zs[j]) = some (encM (bs zs[j]))
    unfold encM
    rw [take_small (by rw [bs_length]; exact hs)]
    rfl
  have eg : ∀ args w, (callFunc 38 args).run Tryz.prog w = .ok (.enter 38 args) w := enters_of Tryz.func38 (by kernel_rfl) rfl
  have h := Any.slices_SortFunc lay_SlLaysF_n6 encM (fun _ => rfl) cfM swoM 38 #[] g 0 cap (zs.map bs).toArray w eg (cmpM g 0 _ w).lays hH hg (by rw [hd]; omega)
  rw [hd] at h
  refine Calls.mono h ?_
  rintro e w' ⟨rfl, d', n, os, h1, h2, rfl⟩
  refine ⟨rfl, d'.toList, ?_⟩
  have hp := perm_all (by rw [hd]; exact h1)
  have hlen : d'.toList.length = zs.length := by rw [hp.length_eq]; simp
  have hsm : ∀ y ∈ d'.toList, y.length ≤ 1000000 := fun y hy => by
    have := hp.mem_iff.1 hy
    simp at this
    obtain ⟨z, hz1, rfl⟩ := this
    rw [bs_length]; exact hz z hz1
  have hsm2 : ∀ j, j < d'.size → (d'[j]!).length ≤ 1000000 := fun j hj => by
    rw [getElem!_pos _ j hj]; exact hsm _ (by simp)
  have hds : d'.size = zs.length := by rw [← hlen]; simp
  refine ⟨hlen, ?_, ?_, ?_, ?_, ?_⟩
  · have hh := holds_sortWorld encM w g 0 n (zs.map bs).toArray d' os hg hH (by rw [hd, hds])
    intro j hj
    simp only [Array.toArray_toList] at hj ⊢
    have := hh j hj
    rw [show encM d'[j]! = encStr d'[j]! by unfold encM; rw [take_small (hsm2 j hj)]] at this
    exact this
  · intro i j hij hj
    simp only [Array.toArray_toList]
    have := ltM_false.1 (h2 i j (by omega) hij (by omega))
    rwa [take_small (hsm2 j (by omega)), take_small (hsm2 i (by omega))] at this
  · intro x
    rw [hp.mem_iff]
    simp only [List.mem_map]
    constructor
    · rintro ⟨z, hz1, rfl⟩; exact hz1
    · intro hx; exact ⟨_, hx, rfl⟩
  · unfold sortWorld
    exact below_grow0 (Lib.below_putRow (Below.refl B w) hB) (by rw [size_putRow]; show B ≤ w.heap.size; omega) os
  · unfold sortWorld
    show g < (_ ++ os).size
    rw [Array.size_append]
    have : (Sort.putRow encM (Sort.ahead w n) g 0 d').heap.size = w.heap.size := size_putRow _ _ _ _ _
    omega

theorem compact_any (g cap : Nat) (ys : List (List UInt8)) (zs : List ByteArray) (w : World) (B : Nat) (hB : B ≤ g) (hg : g < w.heap.size) (hcap : ys.length ≤ cap) (hl : ys.length ≤ 1000000)
    (hH : Sort.Holds encStr w g 0 ys.toArray) (hs : ∀ i j, i < j → j < ys.length → ¬ ordN ys.toArray[j]! ys.toArray[i]! < 0) (hm : ∀ x, x ∈ ys ↔ (⟨x.toArray⟩ : ByteArray) ∈ zs) :
    Calls Tryz.prog 39 #[.slice (some ⟨g, 0, none⟩) ys.length cap] w fun e w' => ∃ l, e = .returned (.slice (some ⟨g, 0, none⟩) l.length cap) ∧ l.length ≤ ys.length ∧ Srt zs l ∧ StrsAt w' w'.heap.size (some ⟨g, 0, none⟩) l ∧ Below B w w' := by
  refine (Any.slices_Compact_string lay_Lays_n194 g 0 cap ys w hH (by omega) hcap).mono ?_
  rintro e w' ⟨rfl, q, rfl⟩
  have hle := compact_len ys
  have hlen : (baL (Lib.compact ys)).length = (Lib.compact ys).length := by simp [baL]
  refine ⟨baL (Lib.compact ys), by rw [hlen], by rw [hlen]; exact hle, compact_srt ys zs hs hm, fun _ => ⟨g, 0, rfl, ?_, fun j hj => ?_⟩, Lib.below_putRow (Below.refl B w) hB⟩
  · rw [size_putRow]; exact hg
  · rw [hlen] at hj
    have hh := Sort.holds_putRow encStr (Sort.ahead w q) g 0 ys.toArray (Lib.compact ys ++ List.replicate (ys.length - (Lib.compact ys).length) []).toArray hH (by simp; omega) j (by simp; omega)
    rw [hh.1, getElem!_pos _ j (by simp; omega)]
    simp only [List.getElem_toArray, baL, List.getElem_map]
    rw [List.getElem_append_left hj]

/-- how Sorted ends -/
def SortedV (zs : List ByteArray) (w : World) (e : Ending) (w' : World) : Prop := ∃ A c l, e = .returned (.slice A l.length c) ∧ l.length ≤ zs.length ∧ Srt zs l ∧ StrsAt w' w'.heap.size A l ∧ Below w.heap.size w w'
theorem srt_nil : Srt [] [] := ⟨List.Pairwise.nil, fun _ => Iff.rfl⟩

set_option maxRecDepth 100000 in
set_option maxHeartbeats 800000 in
theorem sorted_any (A : Option Addr) (c : Nat) (zs : List ByteArray) (w : World) (hA : StrsAt w w.heap.size A zs) (hl : zs.length ≤ 1000000) (hz : ∀ z ∈ zs, z.size ≤ 1000000) :
    Calls Tryz.prog 26 #[.slice A zs.length c] w fun e w' => SortedV zs w e w' := by
  have HC := Lib.hid (clone_any A c zs w hA hl)
  clear hA
  go_enter Tryz.func26, Tryz.ntmps26
  go_wp2_with fail
  refine HC.out.mono ?_
  rintro e w1 ⟨v, rfl, ho, hb1⟩
  by_cases h0 : zs.length = 0
  · obtain rfl : zs = [] := List.eq_nil_of_length_eq_zero h0
    obtain ⟨A', c', rfl⟩ : ∃ A' c', v = .slice A' 0 c' := by
      rcases ho.form with ⟨rfl, _⟩ | ⟨g, cap, rfl, _⟩
      · exact ⟨_, _, rfl⟩
      · exact ⟨_, _, rfl⟩
    clear ho HC
    go_wp2_with fail
    refine (AnyF.slices_SortFunc_none lay_SlLaysF0_n6 A' c' _ w1).mono ?_
    rintro e w2 ⟨rfl, rfl⟩
    go_wp2_with fail
    refine (Any.slices_Compact_string_empty lay_Lays_n194 A' c' _).mono ?_
    rintro e w3 ⟨rfl, rfl⟩
    go_wp2
    go_ret
    exact ⟨A', c', [], rfl, Nat.le_refl _, srt_nil, fun h => absurd h (by simp), hb1⟩
  · rcases ho.form with ⟨_, rfl⟩ | ⟨g, cap, rfl, hg1, hg2, hcap, hcells⟩
    · exact absurd rfl h0
    · have HS := Lib.hid (sort_any g cap zs w1 w.heap.size hg1 hg2 hcells (fun j => World.ownsRow.frozenAt ho j) hl hz)
      clear ho HC hcells
      go_wp2_with fail
      refine HS.out.mono ?_
      rintro e w2 ⟨rfl, ys, hlen, hH, hsr, hm, hb2, hg3⟩
      have HK := Lib.hid (compact_any g cap ys zs w2 w.heap.size hg1 hg3 (by omega) (by omega) hH (fun i j a b => by have := hsr i j a b; omega) hm)
      rw [hlen] at HK
      clear hH hsr hm HS
      go_wp2_with fail
      refine HK.out.mono ?_
      rintro e w3 ⟨l, rfl, hll, hS, hat, hb3⟩
      have HF : Hid (SortedV zs w (.returned (.slice (some ⟨g, 0, none⟩) l.length cap)) w3) := ⟨_, _, l, rfl, by omega, hS, hat, (hb1.trans hb2).trans hb3⟩
      clear hS hat
      go_wp2
      go_ret
      exact HF.out
end Go.Proofs.YtlbdbaafmdikcaaGreatDoor

/-
  Contract of package ddl's Names.
-/
namespace Go.Proofs.YtlbdbaafmdikcaaGreatDoor
open Go.RowKit

/-- the names that a change touches, rising -/
def NamesV (d : Dp) (l : List ByteArray) : Prop := if plainD d = true then Srt (if d.op = 3 then [d.tb, d.to] else [d.tb]) l else l = []
theorem NamesV.unique {d : Dp} {l m : List ByteArray} (h : NamesV d l) (h2 : NamesV d m) : l = m := by
  unfold NamesV at h h2
  split at h
  · rename_i e
    rw [if_pos e] at h2
    exact h.unique h2
  · rename_i e
    rw [if_neg e] at h2
    rw [h, h2]
/-- how Names ends -/
def NamesEnd (d : Dp) (w : World) (e : Ending) (w' : World) : Prop := ∃ A c l, e = .returned (.slice A l.length c) ∧ l.length ≤ 2 ∧ NamesV d l ∧ StrsAt w' w'.heap.size A l ∧ Below w.heap.size w w'
theorem strs_two {w : World} {b1 : Nat} {x y : ByteArray} (hc : w.cell? ⟨b1, 0, none⟩ = some (.string x)) (hd : w.cell? ⟨b1, 1, none⟩ = some (.string y)) : StrsAt w w.heap.size (some ⟨b1, 0, none⟩) [x, y] := fun _ =>
  ⟨b1, 0, rfl, World.block_lt_of_cell? w _ hc, fun j hj => by
    match j, hj with
    | 0, _ => exact hc
    | 1, _ => exact hd⟩
set_option maxRecDepth 100000 in
set_option maxHeartbeats 1600000 in
theorem dnames_any (d : Db) (w : World) (hD : DdlAt w w.heap.size d) (hd : WfD d.p) : Calls Tryz.prog 11 #[DV d] w fun e w' => NamesEnd d.p w e w' := by
  obtain ⟨w0, hw0, hb0, hX, hs0⟩ := box_ddl w d
  have Hw0 := Lib.hid hw0; clear hw0
  have Hb0 := Lib.hid hb0
  have HX := Lib.hid hX; clear hX
  have Hs0 := Lib.hid hs0; clear hs0
  have HP := Lib.hid (dplain_any d w0 (hD.to hb0) hd.2.2.2.2.1)
  rw [← Hw0.out] at HP
  have Hs1 : Hid (∀ z ∈ [d.p.tb, d.p.to], z.size ≤ 1000000) := fun z hz => by
    have h1 := hd.1
    have h2 := hd.2.2.1
    simp at hz
    rcases hz with rfl | rfl
    · exact h1
    · exact h2
  have Hs2 : Hid (∀ z ∈ [d.p.tb], z.size ≤ 1000000) := fun z hz => by
    have h1 := hd.1
    simp at hz
    subst hz
    exact h1
  clear hD hb0 hd
  obtain ⟨x0, x1, x2, x3, x4, x5, x6, x7, x8, x9, x10, x11⟩ := HX.out.ddl
  cases hp : plainD d.p
  · rw [hp] at HP
    have HE : Hid (NamesV d.p []) := by show NamesV _ _; unfold NamesV; rw [hp]; rfl
    clear hp
    go_enter Tryz.func11, Tryz.ntmps11
    go_wp2_with fail
    refine HP.out.mono ?_
    rintro e w1 ⟨rfl, hb1⟩
    rw [Hw0.out] at hb1
    have Hb1 := Lib.hid (bthen Hb0.out hb1); clear hb1
    go_wp2_with fail
    go_ret
    exact ⟨none, 0, [], rfl, by simp, HE.out, fun h => absurd h (by simp), Hb1.out⟩
  rw [hp] at HP
  by_cases h3 : d.p.op = 3
  · have q3 : (d.p.op == 3) = true := by rw [beq_iff_eq]; exact h3
    have HE : Hid (∀ l, Srt [d.p.tb, d.p.to] l → NamesV d.p l) := fun l hl => by unfold NamesV; rw [hp, if_pos rfl, if_pos h3]; exact hl
    clear hp h3
    go_enter Tryz.func11, Tryz.ntmps11
    go_wp2_with fail
    refine HP.out.mono ?_
    rintro e w1 ⟨rfl, hb1⟩
    rw [Hw0.out] at hb1
    have Hb1 := Lib.hid hb1
    have HX1 := Lib.hid (HX.out.below hb1 (by have := Hs0.out; omega))
    clear hb1 x0 x1 x2 x3 x4 x5 x6 x7 x8 x9 x10 x11
    obtain ⟨x0, x1, x2, x3, x4, x5, x6, x7, x8, x9, x10, x11⟩ := HX1.out.ddl
    have HSo := Lib.hid (sorted_any (some ⟨w1.heap.size, 0, none⟩) 2 [d.p.tb, d.p.to] (w1.alloc (.cells #[.string d.p.tb, .string d.p.to] 9)) (strs_two (by simp) (by simp)) (by simp) Hs1.out)
    go_wp2_with fail
    refine HSo.out.mono ?_
    rintro e w2 ⟨A, c, l, rfl, hll, hS, hat, hb2⟩
    have HF : Hid (NamesEnd d.p w (.returned (.slice A l.length c)) w2) := ⟨A, c, l, rfl, Nat.le_trans hll (by simp), HE.out l hS, hat, bthen (bthen Hb0.out Hb1.out) (bthen (below_one _ _) hb2)⟩
    clear hll hS hat hb2
    go_wp2_with fail
    go_ret
    exact HF.out
  · have q3 : (d.p.op == 3) = false := by rw [beq_eq_false_iff_ne]; exact h3
    have HE : Hid (∀ l, Srt [d.p.tb] l → NamesV d.p l) := fun l hl => by unfold NamesV; rw [hp, if_pos rfl, if_neg h3]; exact hl
    clear hp h3
    go_enter Tryz.func11, Tryz.ntmps11
    go_wp2_with fail
    refine HP.out.mono ?_
    rintro e w1 ⟨rfl, hb1⟩
    rw [Hw0.out] at hb1
    have Hb1 := Lib.hid hb1
    have HX1 := Lib.hid (HX.out.below hb1 (by have := Hs0.out; omega))
    clear hb1 x0 x1 x2 x3 x4 x5 x6 x7 x8 x9 x10 x11
    obtain ⟨x0, x1, x2, x3, x4, x5, x6, x7, x8, x9, x10, x11⟩ := HX1.out.ddl
    have HSo := Lib.hid (sorted_any (some ⟨w1.heap.size, 0, none⟩) 1 [d.p.tb] (w1.alloc (.cells #[.string d.p.tb] 9)) (strs_one (by simp)) (by simp) Hs2.out)
    go_wp2_with fail
    refine HSo.out.mono ?_
    rintro e w2 ⟨A, c, l, rfl, hll, hS, hat, hb2⟩
    have HF : Hid (NamesEnd d.p w (.returned (.slice A l.length c)) w2) := ⟨A, c, l, rfl, Nat.le_trans hll (by simp), HE.out l hS, hat, bthen (bthen Hb0.out Hb1.out) (bthen (below_one _ _) hb2)⟩
    clear hll hS hat hb2
    go_wp2_with fail
    go_ret
    exact HF.out
end Go.Proofs.YtlbdbaafmdikcaaGreatDoor

/-
  Contracts of slices.EqualFunc at tables and columns, of package schema's SameTable and Same, and of the document's own.
-/
namespace Go.Proofs.YtlbdbaafmdikcaaGreatDoor
open Go.RowKit

/-- are two lists alike, place by place? -/
def Pair {α : Type} (r : α → α → Bool) (a b : List α) : Prop := a.length = b.length ∧ ∀ (j : Nat) x y, a[j]? = some x → b[j]? = some y → r x y = true
theorem pair_stop {α : Type} {r : α → α → Bool} {a b : List α} {k : Nat} {x y : α} (hx : a[k]? = some x) (hy : b[k]? = some y) (h : r x y = false) : tf (Pair r a b) = false :=
  tf_no fun hp => by have := hp.2 k x y hx hy; rw [h] at this; cases this
theorem pair_self {α : Type} {r : α → α → Bool} (h : ∀ x, r x x = true) (a : List α) : tf (Pair r a a) = true :=
  tf_yes ⟨rfl, fun j x y hx hy => by rw [hx] at hy; cases hy; exact h x⟩
/-- are two tables alike? -/
noncomputable def sameT (a b : Tb) : Bool := (a.id == b.id) && (eqS a.nm b.nm && ((a.key == b.key) && ((a.nx == b.nx) && tf (Pair eqC a.cols b.cols))))
theorem eqC_self (c : Cb) : eqC c c = true := eqC_iff.2 rfl
theorem sameT_self (t : Tb) : sameT t t = true := by
  unfold sameT
  rw [pair_self eqC_self, eqS_self]; simp
end Go.Proofs.YtlbdbaafmdikcaaGreatDoor

/-
  Contracts of package schema's SameTable and Same, and of the document's own SameCols, SameTable and Same.
-/
namespace Go.Proofs.YtlbdbaafmdikcaaGreatDoor
open Go.RowKit

set_option maxRecDepth 100000 in
set_option maxHeartbeats 1600000 in
theorem rsamec_any (A A2 : Option Addr) (cp cp2 : Nat) (a b : List Cb) (w : World) (hA : ColsAt w w.heap.size A a) (hA2 : ColsAt w w.heap.size A2 b) (hl : a.length ≤ 1000000) (_hl2 : b.length ≤ 1000000) :
    Calls Tryz.prog 29 #[.slice A a.length cp, .slice A2 b.length cp2] w fun e w' => e = .returned (.bool (tf (Pair eqC a b))) ∧ Below w.heap.size w w' := by
  have HA := Lib.hid hA; clear hA
  have HA2 := Lib.hid hA2; clear hA2
  by_cases hlen : a.length = b.length
  · have hneq : ((a.length : Int) != (b.length : Int)) = false := by simp [hlen]
    have heql : ((a.length : Int) == (b.length : Int)) = true := by simp [hlen]
    have Hlen := Lib.hid hlen; clear hlen
    go_enter Tryz.func29, Tryz.ntmps29
    go_wp2_with fail
    go_loopw [5] (fun i wr => ∃ k : Nat, k ≤ a.length ∧ i = .int .i64 k ∧ Hid (∀ j x y, a[j]? = some x → b[j]? = some y → j < k → eqC x y = true) ∧ Hid (Below w.heap.size w wr)) (fun i _ => a.length - (intOf i).toNat)
    case atStart => exact ⟨0, by omega, rfl, fun j x y _ _ h => absurd h (by omega), Below.refl _ _⟩
    case round =>
      obtain ⟨k, hk, rfl, hall, hb⟩ := hrel
      by_cases hlt : k < a.length
      · have hlt2 : k < b.length := by have := Hlen.out; omega
        obtain ⟨x, hx⟩ : ∃ x, a[k]? = some x := ⟨a[k], by simp [hlt]⟩
        obtain ⟨y, hy⟩ : ∃ y, b[k]? = some y := ⟨b[k], by simp [hlt2]⟩
        have Hx := Lib.hid hx
        have Hy := Lib.hid hy
        obtain ⟨b1, off, rfl, hbB, c0, c1, c2, c3, c4, c5, c6, c7⟩ := ColsAt.get (RowAt.below HA.out hb.out) k x hx
        obtain ⟨b2, off2, rfl, hbB2, d0, d1, d2, d3, d4, d5, d6, d7⟩ := ColsAt.get (RowAt.below HA2.out hb.out) k y hy
        have hne : Nonempty (BelowBy wr.heap.size wr) := ⟨⟨wr, Below.refl _ _⟩⟩
        have X0 : ∀ p : BelowBy wr.heap.size wr, p.x.cell? ⟨b1, off + k * 8, none⟩ = some (.int .i64 x.id) := fun p => (p.h.cell (by have := hb.out.size; simp; omega)).trans c0
        have X1 : ∀ p : BelowBy wr.heap.size wr, p.x.cell? ⟨b1, off + k * 8 + 1, none⟩ = some (.string x.nm) := fun p => (p.h.cell (by have := hb.out.size; simp; omega)).trans c1
        have X2 : ∀ p : BelowBy wr.heap.size wr, p.x.cell? ⟨b1, off + k * 8 + 2, none⟩ = some (.int .i64 x.tk) := fun p => (p.h.cell (by have := hb.out.size; simp; omega)).trans c2
        have X3 : ∀ p : BelowBy wr.heap.size wr, p.x.cell? ⟨b1, off + k * 8 + 3, none⟩ = some (.int .i64 x.tm) := fun p => (p.h.cell (by have := hb.out.size; simp; omega)).trans c3
        have X4 : ∀ p : BelowBy wr.heap.size wr, p.x.cell? ⟨b1, off + k * 8 + 4, none⟩ = some (.bool x.nl) := fun p => (p.h.cell (by have := hb.out.size; simp; omega)).trans c4
        have X5 : ∀ p : BelowBy wr.heap.size wr, p.x.cell? ⟨b1, off + k * 8 + 5, none⟩ = some (.int .i64 x.dk) := fun p => (p.h.cell (by have := hb.out.size; simp; omega)).trans c5
        have X6 : ∀ p : BelowBy wr.heap.size wr, p.x.cell? ⟨b1, off + k * 8 + 6, none⟩ = some (.int .i64 x.dn) := fun p => (p.h.cell (by have := hb.out.size; simp; omega)).trans c6
        have X7 : ∀ p : BelowBy wr.heap.size wr, p.x.cell? ⟨b1, off + k * 8 + 7, none⟩ = some (.string x.ds) := fun p => (p.h.cell (by have := hb.out.size; simp; omega)).trans c7
        have Y0 : ∀ p : BelowBy wr.heap.size wr, p.x.cell? ⟨b2, off2 + k * 8, none⟩ = some (.int .i64 y.id) := fun p => (p.h.cell (by have := hb.out.size; simp; omega)).trans d0
        have Y1 : ∀ p : BelowBy wr.heap.size wr, p.x.cell? ⟨b2, off2 + k * 8 + 1, none⟩ = some (.string y.nm) := fun p => (p.h.cell (by have := hb.out.size; simp; omega)).trans d1
        have Y2 : ∀ p : BelowBy wr.heap.size wr, p.x.cell? ⟨b2, off2 + k * 8 + 2, none⟩ = some (.int .i64 y.tk) := fun p => (p.h.cell (by have := hb.out.size; simp; omega)).trans d2
        have Y3 : ∀ p : BelowBy wr.heap.size wr, p.x.cell? ⟨b2, off2 + k * 8 + 3, none⟩ = some (.int .i64 y.tm) := fun p => (p.h.cell (by have := hb.out.size; simp; omega)).trans d3
        have Y4 : ∀ p : BelowBy wr.heap.size wr, p.x.cell? ⟨b2, off2 + k * 8 + 4, none⟩ = some (.bool y.nl) := fun p => (p.h.cell (by have := hb.out.size; simp; omega)).trans d4
        have Y5 : ∀ p : BelowBy wr.heap.size wr, p.x.cell? ⟨b2, off2 + k * 8 + 5, none⟩ = some (.int .i64 y.dk) := fun p => (p.h.cell (by have := hb.out.size; simp; omega)).trans d5
        have Y6 : ∀ p : BelowBy wr.heap.size wr, p.x.cell? ⟨b2, off2 + k * 8 + 6, none⟩ = some (.int .i64 y.dn) := fun p => (p.h.cell (by have := hb.out.size; simp; omega)).trans d6
        have Y7 : ∀ p : BelowBy wr.heap.size wr, p.x.cell? ⟨b2, off2 + k * 8 + 7, none⟩ = some (.string y.ds) := fun p => (p.h.cell (by have := hb.out.size; simp; omega)).trans d7
        have q : ∀ w, (binOp .neq 59 (CV x) (CV y)).run Tryz.prog w = .ok (.bool (!eqC x y)) w := fun w => run_neq_C w x y
        have hk0 : (0 : Int) ≤ (k : Int) := by omega
        clear hx hy c0 c1 c2 c3 c4 c5 c6 c7 d0 d1 d2 d3 d4 d5 d6 d7
        cases hp : eqC x y
        · have Hno : Hid (tf (Pair eqC a b) = false) := pair_stop Hx.out Hy.out hp
          rw [hp] at q
          clear hp
          go_wp2_with fail
          refine wp_region_below wr.heap.size (by kernel_rfl) (by kernel_rfl) ?_
          repeat (
            with_reducible refine wpQuiet_step (fun K hK => ?_)
            go_simp
            refine hK _ ?_
            clear hK K)
          refine wpQuiet_nil ?_
          rintro _ ⟨p, rfl⟩
          go_wp2_with fail
          go_ret
          exact ⟨by rw [Hno.out]; rfl, bthen hb.out p.h⟩
        · have Hall : Hid (∀ j x y, a[j]? = some x → b[j]? = some y → j < k + 1 → eqC x y = true) := fun j x' y' hj hj2 hk => by
            by_cases e : j = k
            · subst e
              rw [Hx.out] at hj; cases hj
              rw [Hy.out] at hj2; cases hj2
              exact hp
            · exact hall.out j x' y' hj hj2 (by omega)
          rw [hp] at q
          clear hp
          go_wp2_with fail
          refine wp_region_below wr.heap.size (by kernel_rfl) (by kernel_rfl) ?_
          repeat (
            with_reducible refine wpQuiet_step (fun K hK => ?_)
            go_simp
            refine hK _ ?_
            clear hK K)
          refine wpQuiet_nil ?_
          rintro _ ⟨p, rfl⟩
          go_wp2_with fail
          go_roundw
          case rel => exact ⟨k + 1, by omega, by go_num, Hall.out, bthen hb.out p.h⟩
          case measure => simp [intOf]; omega
      · have Hyes : Hid (tf (Pair eqC a b) = true) := tf_yes ⟨Hlen.out, fun j x y hx hy => hall.out j x y hx hy (by have := (List.getElem?_eq_some_iff.1 hx).1; omega)⟩
        go_wp2_with fail
        go_ret
        exact ⟨by rw [Hyes.out]; rfl, hb.out⟩
  · have hneq : ((a.length : Int) != (b.length : Int)) = true := by simp; omega
    have heql : ((a.length : Int) == (b.length : Int)) = false := by simp; omega
    have Hno : Hid (tf (Pair eqC a b) = false) := tf_no fun h => hlen h.1
    clear hlen
    go_enter Tryz.func29, Tryz.ntmps29
    go_wp2_with fail
    go_ret
    exact ⟨by rw [Hno.out]; rfl, Below.refl _ _⟩
set_option maxRecDepth 100000 in
set_option maxHeartbeats 1600000 in
theorem rsametab_any (a b : Tb) (w : World) (hA : TabAt w w.heap.size a) (hB : TabAt w w.heap.size b) (hl : a.cols.length ≤ 1000000) (hl2 : b.cols.length ≤ 1000000) :
    Calls Tryz.prog 20 #[TV a, TV b] w fun e w' => e = .returned (.bool (sameT a b)) ∧ Below w.heap.size w w' := by
  have hk := Lib.hid (below_two w (.cells (fT a).toArray 45) (.cells (fT b).toArray 45))
  have HC := Lib.hid (rsamec_any a.A b.A a.cap b.cap a.cols b.cols _ (RowAt.to hA hk.out) (RowAt.to hB hk.out) hl hl2)
  obtain ⟨x0, x1, x2, x3, x4⟩ := (BlkN.new w _ (fT a) 45 rfl).tab
  have e0 := fun o => keep_alloc x0 o
  have e1 := fun o => keep_alloc x1 o
  have e2 := fun o => keep_alloc x2 o
  have e3 := fun o => keep_alloc x3 o
  have e4 := fun o => keep_alloc x4 o
  clear x0 x1 x2 x3 x4 hA hB
  unfold fT at e0 e1 e2 e3 e4
  have Hv : Hid (sameT a b = ((a.id == b.id) && (eqS a.nm b.nm && ((a.key == b.key) && ((a.nx == b.nx) && tf (Pair eqC a.cols b.cols)))))) := rfl
  generalize h1 : (a.id == b.id) = b1 at Hv
  generalize hE : eqS a.nm b.nm = b2 at Hv
  have h2 : (a.nm.toList == b.nm.toList) = b2 := hE
  clear hE
  generalize h3 : (a.key == b.key) = b3 at Hv
  generalize h4 : (a.nx == b.nx) = b4 at Hv
  generalize tf (Pair eqC a.cols b.cols) = b5 at Hv HC
  cases b1
  · go_enter Tryz.func20, Tryz.ntmps20
    go_wp2_with fail
    go_ret
    exact ⟨by rw [Hv.out]; rfl, hk.out⟩
  cases b2
  · go_enter Tryz.func20, Tryz.ntmps20
    go_wp2_with fail
    go_ret
    exact ⟨by rw [Hv.out]; rfl, hk.out⟩
  cases b3
  · go_enter Tryz.func20, Tryz.ntmps20
    go_wp2_with fail
    go_ret
    exact ⟨by rw [Hv.out]; rfl, hk.out⟩
  cases b4
  · go_enter Tryz.func20, Tryz.ntmps20
    go_wp2_with fail
    go_ret
    exact ⟨by rw [Hv.out]; rfl, hk.out⟩
  · go_enter Tryz.func20, Tryz.ntmps20
    go_wp2_with fail
    refine HC.out.mono ?_
    rintro e w1 ⟨rfl, hb1⟩
    have Hb1 := Lib.hid (bthen hk.out hb1); clear hb1
    go_wp2_with fail
    go_ret
    exact ⟨by rw [Hv.out]; rfl, Hb1.out⟩
theorem box_two (w : World) (u v : Value) (ty : TypeId) : ∃ w0, (w.alloc (.cells #[u] ty)).alloc (.cells #[v] ty) = w0 ∧ Below w.heap.size w w0 ∧ w0.cell? ⟨w.heap.size, 0, none⟩ = some u ∧ w0.cell? ⟨w.heap.size + 1, 0, none⟩ = some v ∧ w0.heap.size = w.heap.size + 2 :=
  ⟨_, rfl, below_two w _ _, keep_alloc (by simp) _, by simp, by simp⟩
set_option maxRecDepth 100000 in
set_option maxHeartbeats 1600000 in
theorem rsamecat_any (A A2 : Option Addr) (cp cp2 : Nat) (a b : List Tb) (w : World) (hA : TabsAt w w.heap.size A a) (hA2 : TabsAt w w.heap.size A2 b) (hl : a.length ≤ 1000000) (_hl2 : b.length ≤ 1000000)
    (hw : ∀ t ∈ a, WfT t) (hw2 : ∀ t ∈ b, WfT t) :
    Calls Tryz.prog 21 #[.agg #[.slice A a.length cp], .agg #[.slice A2 b.length cp2]] w fun e w' => e = .returned (.bool (tf (Pair sameT a b))) ∧ Below w.heap.size w w' := by
  obtain ⟨w0, hw0, hb0, hU, hV, hs0⟩ := box_two w (.slice A a.length cp) (.slice A2 b.length cp2) 37
  have Hw0 := Lib.hid hw0
  have Hb0 := Lib.hid hb0
  have HA := Lib.hid (hA.to hb0); clear hA
  have HA2 := Lib.hid (hA2.to hb0); clear hA2 hb0
  have HU := Lib.hid hU; clear hU
  have HV := Lib.hid hV; clear hV
  have Hs0 := Lib.hid hs0; clear hs0 hw0
  have HW := Lib.hid hw; clear hw
  have HW2 := Lib.hid hw2; clear hw2
  have e0 : ∀ o, ((w.alloc (.cells #[.slice A a.length cp] 37)).alloc o).cell? ⟨w.heap.size, 0, none⟩ = some (.slice A a.length cp) := fun o => keep_alloc (by simp) o
  by_cases hlen : a.length = b.length
  · have hneq : ((a.length : Int) != (b.length : Int)) = false := by simp [hlen]
    have heql : ((a.length : Int) == (b.length : Int)) = true := by simp [hlen]
    have Hlen := Lib.hid hlen; clear hlen
    go_enter Tryz.func21, Tryz.ntmps21
    go_wp2_with fail
    rw [Hw0.out]
    clear e0
    go_loopw [5] (fun i wr => ∃ k : Nat, k ≤ a.length ∧ i = .int .i64 k ∧ Hid (∀ j x y, a[j]? = some x → b[j]? = some y → j < k → sameT x y = true) ∧ Hid (Below w0.heap.size w0 wr)) (fun i _ => a.length - (intOf i).toNat)
    case atStart => exact ⟨0, by omega, rfl, fun j x y _ _ h => absurd h (by omega), Below.refl _ _⟩
    case round =>
      obtain ⟨k, hk, rfl, hall, hb⟩ := hrel
      have Hbw := Lib.hid (bthen Hb0.out hb.out)
      have u0 : wr.cell? ⟨w.heap.size, 0, none⟩ = some (.slice A a.length cp) := (hb.out.cell (by have := Hs0.out; simp; omega)).trans HU.out
      by_cases hlt : k < a.length
      · have hlt2 : k < b.length := by have := Hlen.out; omega
        obtain ⟨x, hx⟩ : ∃ x, a[k]? = some x := ⟨a[k], by simp [hlt]⟩
        obtain ⟨y, hy⟩ : ∃ y, b[k]? = some y := ⟨b[k], by simp [hlt2]⟩
        have Hx := Lib.hid hx
        have Hy := Lib.hid hy
        obtain ⟨b1, off, hAe, hbB, c0, c1, c2, c3, c4⟩ := (HA.out.below hb.out).get k x hx
        obtain ⟨b2, off2, hAe2, hbB2, d0, d1, d2, d3, d4⟩ := (HA2.out.below hb.out).get k y hy
        have hne : Nonempty (BelowBy wr.heap.size wr) := ⟨⟨wr, Below.refl _ _⟩⟩
        have U0 : ∀ p : BelowBy wr.heap.size wr, p.x.cell? ⟨w.heap.size, 0, none⟩ = some (.slice (some ⟨b1, off, none⟩) a.length cp) := fun p => by rw [← hAe]; exact (p.h.cell (by have := Hs0.out; have := hb.out.size; simp; omega)).trans u0
        have V0 : ∀ p : BelowBy wr.heap.size wr, p.x.cell? ⟨w.heap.size + 1, 0, none⟩ = some (.slice (some ⟨b2, off2, none⟩) b.length cp2) := fun p => by rw [← hAe2]; exact (p.h.cell (by have := Hs0.out; have := hb.out.size; simp; omega)).trans ((hb.out.cell (by have := Hs0.out; simp; omega)).trans HV.out)
        clear hAe hAe2
        have X0 : ∀ p : BelowBy wr.heap.size wr, p.x.cell? ⟨b1, off + k * 5, none⟩ = some (.int .i64 x.id) := fun p => (p.h.cell (by have := hb.out.size; simp; omega)).trans c0
        have X1 : ∀ p : BelowBy wr.heap.size wr, p.x.cell? ⟨b1, off + k * 5 + 1, none⟩ = some (.string x.nm) := fun p => (p.h.cell (by have := hb.out.size; simp; omega)).trans c1
        have X2 : ∀ p : BelowBy wr.heap.size wr, p.x.cell? ⟨b1, off + k * 5 + 2, none⟩ = some (.int .i64 x.key) := fun p => (p.h.cell (by have := hb.out.size; simp; omega)).trans c2
        have X3 : ∀ p : BelowBy wr.heap.size wr, p.x.cell? ⟨b1, off + k * 5 + 3, none⟩ = some (.int .i64 x.nx) := fun p => (p.h.cell (by have := hb.out.size; simp; omega)).trans c3
        have X4 : ∀ p : BelowBy wr.heap.size wr, p.x.cell? ⟨b1, off + k * 5 + 4, none⟩ = some (.slice x.A x.cols.length x.cap) := fun p => (p.h.cell (by have := hb.out.size; simp; omega)).trans c4
        have Y0 : ∀ p : BelowBy wr.heap.size wr, p.x.cell? ⟨b2, off2 + k * 5, none⟩ = some (.int .i64 y.id) := fun p => (p.h.cell (by have := hb.out.size; simp; omega)).trans d0
        have Y1 : ∀ p : BelowBy wr.heap.size wr, p.x.cell? ⟨b2, off2 + k * 5 + 1, none⟩ = some (.string y.nm) := fun p => (p.h.cell (by have := hb.out.size; simp; omega)).trans d1
        have Y2 : ∀ p : BelowBy wr.heap.size wr, p.x.cell? ⟨b2, off2 + k * 5 + 2, none⟩ = some (.int .i64 y.key) := fun p => (p.h.cell (by have := hb.out.size; simp; omega)).trans d2
        have Y3 : ∀ p : BelowBy wr.heap.size wr, p.x.cell? ⟨b2, off2 + k * 5 + 3, none⟩ = some (.int .i64 y.nx) := fun p => (p.h.cell (by have := hb.out.size; simp; omega)).trans d3
        have Y4 : ∀ p : BelowBy wr.heap.size wr, p.x.cell? ⟨b2, off2 + k * 5 + 4, none⟩ = some (.slice y.A y.cols.length y.cap) := fun p => (p.h.cell (by have := hb.out.size; simp; omega)).trans d4
        have HS := Lib.hid (fun w' (hb' : Below wr.heap.size wr w') => rsametab_any x y w' (((HA.out.to hb.out).to hb').2 x (List.mem_of_getElem? hx)) (((HA2.out.to hb.out).to hb').2 y (List.mem_of_getElem? hy)) (HW.out x (List.mem_of_getElem? hx)).2.1 (HW2.out y (List.mem_of_getElem? hy)).2.1)
        clear hx hy c0 c1 c2 c3 c4 d0 d1 d2 d3 d4
        cases hp : sameT x y
        · have Hno : Hid (tf (Pair sameT a b) = false) := pair_stop Hx.out Hy.out hp
          rw [hp] at HS
          clear hp
          go_wp2_with fail
          refine wp_region_below wr.heap.size (by kernel_rfl) (by kernel_rfl) ?_
          repeat (
            with_reducible refine wpQuiet_step (fun K hK => ?_)
            go_simp
            refine hK _ ?_
            clear hK K)
          with_reducible refine wpQuiet_step (fun K hK => ?_)
          go_simp
          apply Exists.intro
          refine ⟨fun p => ?_, hK _ ?_⟩
          exact (HS.out _ p.h).mono fun e w5 ⟨he, hb⟩ => ⟨he, p.step (Nat.le_refl _) hb⟩
          clear hK K
          repeat (
            with_reducible refine wpQuiet_step (fun K hK => ?_)
            go_simp
            refine hK _ ?_
            clear hK K)
          refine wpQuiet_nil ?_
          rintro _ ⟨p, rfl⟩
          go_wp2_with fail
          go_ret
          exact ⟨by rw [Hno.out]; rfl, bthen Hbw.out p.h⟩
        · have Hall : Hid (∀ j x y, a[j]? = some x → b[j]? = some y → j < k + 1 → sameT x y = true) := fun j x' y' hj hj2 hk => by
            by_cases e : j = k
            · subst e
              rw [Hx.out] at hj; cases hj
              rw [Hy.out] at hj2; cases hj2
              exact hp
            · exact hall.out j x' y' hj hj2 (by omega)
          rw [hp] at HS
          clear hp
          go_wp2_with fail
          refine wp_region_below wr.heap.size (by kernel_rfl) (by kernel_rfl) ?_
          repeat (
            with_reducible refine wpQuiet_step (fun K hK => ?_)
            go_simp
            refine hK _ ?_
            clear hK K)
          with_reducible refine wpQuiet_step (fun K hK => ?_)
          go_simp
          apply Exists.intro
          refine ⟨fun p => ?_, hK _ ?_⟩
          exact (HS.out _ p.h).mono fun e w5 ⟨he, hb⟩ => ⟨he, p.step (Nat.le_refl _) hb⟩
          clear hK K
          repeat (
            with_reducible refine wpQuiet_step (fun K hK => ?_)
            go_simp
            refine hK _ ?_
            clear hK K)
          refine wpQuiet_nil ?_
          rintro _ ⟨p, rfl⟩
          go_wp2_with fail
          go_roundw
          case rel => exact ⟨k + 1, by omega, by go_num, Hall.out, bthen hb.out p.h⟩
          case measure => simp [intOf]; omega
      · have Hyes : Hid (tf (Pair sameT a b) = true) := tf_yes ⟨Hlen.out, fun j x y hx hy => hall.out j x y hx hy (by have := (List.getElem?_eq_some_iff.1 hx).1; omega)⟩
        go_wp2_with fail
        go_ret
        exact ⟨by rw [Hyes.out]; rfl, Hbw.out⟩
  · have hneq : ((a.length : Int) != (b.length : Int)) = true := by simp; omega
    have heql : ((a.length : Int) == (b.length : Int)) = false := by simp; omega
    have Hno : Hid (tf (Pair sameT a b) = false) := tf_no fun h => hlen h.1
    clear hlen
    go_enter Tryz.func21, Tryz.ntmps21
    go_wp2_with fail
    go_ret
    exact ⟨by rw [Hno.out]; rfl, by rw [Hw0.out]; exact Hb0.out⟩
end Go.Proofs.YtlbdbaafmdikcaaGreatDoor

/-
  Contracts of slices.Equal at columns and of package ddl's Same.
-/
namespace Go.Proofs.YtlbdbaafmdikcaaGreatDoor
open Go.RowKit

set_option maxRecDepth 100000 in
set_option maxHeartbeats 1600000 in
theorem equalC_any (A A2 : Option Addr) (cp cp2 : Nat) (a b : List Cb) (w : World) (hA : ColsAt w w.heap.size A a) (hA2 : ColsAt w w.heap.size A2 b) (hl : a.length ≤ 1000000) (_hl2 : b.length ≤ 1000000) :
    Calls Tryz.prog 28 #[.slice A a.length cp, .slice A2 b.length cp2] w fun e w' => e = .returned (.bool (tf (Pair eqC a b))) ∧ Below w.heap.size w w' := by
  have HA := Lib.hid hA; clear hA
  have HA2 := Lib.hid hA2; clear hA2
  by_cases hlen : a.length = b.length
  · have hneq : ((a.length : Int) != (b.length : Int)) = false := by simp [hlen]
    have heql : ((a.length : Int) == (b.length : Int)) = true := by simp [hlen]
    have Hlen := Lib.hid hlen; clear hlen
    go_enter Tryz.func28, Tryz.ntmps28
    go_wp2_with fail
    go_loopw [13] (fun i wr => ∃ k : Nat, k ≤ a.length ∧ i = .int .i64 k ∧ Hid (∀ j x y, a[j]? = some x → b[j]? = some y → j < k → eqC x y = true) ∧ Hid (Below w.heap.size w wr)) (fun i _ => a.length - (intOf i).toNat)
    case atStart => exact ⟨0, by omega, rfl, fun j x y _ _ h => absurd h (by omega), Below.refl _ _⟩
    case round =>
      obtain ⟨k, hk, rfl, hall, hb⟩ := hrel
      by_cases hlt : k < a.length
      · have hlt2 : k < b.length := by have := Hlen.out; omega
        obtain ⟨x, hx⟩ : ∃ x, a[k]? = some x := ⟨a[k], by simp [hlt]⟩
        obtain ⟨y, hy⟩ : ∃ y, b[k]? = some y := ⟨b[k], by simp [hlt2]⟩
        have Hx := Lib.hid hx
        have Hy := Lib.hid hy
        obtain ⟨b1, off, rfl, hbB, c0, c1, c2, c3, c4, c5, c6, c7⟩ := ColsAt.get (RowAt.below HA.out hb.out) k x hx
        obtain ⟨b2, off2, rfl, hbB2, d0, d1, d2, d3, d4, d5, d6, d7⟩ := ColsAt.get (RowAt.below HA2.out hb.out) k y hy
        have hne : Nonempty (BelowBy wr.heap.size wr) := ⟨⟨wr, Below.refl _ _⟩⟩
        have X0 : ∀ p : BelowBy wr.heap.size wr, p.x.cell? ⟨b1, off + k * 8, none⟩ = some (.int .i64 x.id) := fun p => (p.h.cell (by have := hb.out.size; simp; omega)).trans c0
        have X1 : ∀ p : BelowBy wr.heap.size wr, p.x.cell? ⟨b1, off + k * 8 + 1, none⟩ = some (.string x.nm) := fun p => (p.h.cell (by have := hb.out.size; simp; omega)).trans c1
        have X2 : ∀ p : BelowBy wr.heap.size wr, p.x.cell? ⟨b1, off + k * 8 + 2, none⟩ = some (.int .i64 x.tk) := fun p => (p.h.cell (by have := hb.out.size; simp; omega)).trans c2
        have X3 : ∀ p : BelowBy wr.heap.size wr, p.x.cell? ⟨b1, off + k * 8 + 3, none⟩ = some (.int .i64 x.tm) := fun p => (p.h.cell (by have := hb.out.size; simp; omega)).trans c3
        have X4 : ∀ p : BelowBy wr.heap.size wr, p.x.cell? ⟨b1, off + k * 8 + 4, none⟩ = some (.bool x.nl) := fun p => (p.h.cell (by have := hb.out.size; simp; omega)).trans c4
        have X5 : ∀ p : BelowBy wr.heap.size wr, p.x.cell? ⟨b1, off + k * 8 + 5, none⟩ = some (.int .i64 x.dk) := fun p => (p.h.cell (by have := hb.out.size; simp; omega)).trans c5
        have X6 : ∀ p : BelowBy wr.heap.size wr, p.x.cell? ⟨b1, off + k * 8 + 6, none⟩ = some (.int .i64 x.dn) := fun p => (p.h.cell (by have := hb.out.size; simp; omega)).trans c6
        have X7 : ∀ p : BelowBy wr.heap.size wr, p.x.cell? ⟨b1, off + k * 8 + 7, none⟩ = some (.string x.ds) := fun p => (p.h.cell (by have := hb.out.size; simp; omega)).trans c7
        have Y0 : ∀ p : BelowBy wr.heap.size wr, p.x.cell? ⟨b2, off2 + k * 8, none⟩ = some (.int .i64 y.id) := fun p => (p.h.cell (by have := hb.out.size; simp; omega)).trans d0
        have Y1 : ∀ p : BelowBy wr.heap.size wr, p.x.cell? ⟨b2, off2 + k * 8 + 1, none⟩ = some (.string y.nm) := fun p => (p.h.cell (by have := hb.out.size; simp; omega)).trans d1
        have Y2 : ∀ p : BelowBy wr.heap.size wr, p.x.cell? ⟨b2, off2 + k * 8 + 2, none⟩ = some (.int .i64 y.tk) := fun p => (p.h.cell (by have := hb.out.size; simp; omega)).trans d2
        have Y3 : ∀ p : BelowBy wr.heap.size wr, p.x.cell? ⟨b2, off2 + k * 8 + 3, none⟩ = some (.int .i64 y.tm) := fun p => (p.h.cell (by have := hb.out.size; simp; omega)).trans d3
        have Y4 : ∀ p : BelowBy wr.heap.size wr, p.x.cell? ⟨b2, off2 + k * 8 + 4, none⟩ = some (.bool y.nl) := fun p => (p.h.cell (by have := hb.out.size; simp; omega)).trans d4
        have Y5 : ∀ p : BelowBy wr.heap.size wr, p.x.cell? ⟨b2, off2 + k * 8 + 5, none⟩ = some (.int .i64 y.dk) := fun p => (p.h.cell (by have := hb.out.size; simp; omega)).trans d5
        have Y6 : ∀ p : BelowBy wr.heap.size wr, p.x.cell? ⟨b2, off2 + k * 8 + 6, none⟩ = some (.int .i64 y.dn) := fun p => (p.h.cell (by have := hb.out.size; simp; omega)).trans d6
        have Y7 : ∀ p : BelowBy wr.heap.size wr, p.x.cell? ⟨b2, off2 + k * 8 + 7, none⟩ = some (.string y.ds) := fun p => (p.h.cell (by have := hb.out.size; simp; omega)).trans d7
        have q : ∀ w, (binOp .neq 59 (CV x) (CV y)).run Tryz.prog w = .ok (.bool (!eqC x y)) w := fun w => run_neq_C w x y
        have hk0 : (0 : Int) ≤ (k : Int) := by omega
        clear hx hy c0 c1 c2 c3 c4 c5 c6 c7 d0 d1 d2 d3 d4 d5 d6 d7
        cases hp : eqC x y
        · have Hno : Hid (tf (Pair eqC a b) = false) := pair_stop Hx.out Hy.out hp
          rw [hp] at q
          clear hp
          go_wp2_with fail
          refine wp_region_below wr.heap.size (by kernel_rfl) (by kernel_rfl) ?_
          repeat (
            with_reducible refine wpQuiet_step (fun K hK => ?_)
            go_simp
            refine hK _ ?_
            clear hK K)
          refine wpQuiet_nil ?_
          rintro _ ⟨p, rfl⟩
          go_wp2_with fail
          go_ret
          exact ⟨by rw [Hno.out]; rfl, bthen hb.out p.h⟩
        · have Hall : Hid (∀ j x y, a[j]? = some x → b[j]? = some y → j < k + 1 → eqC x y = true) := fun j x' y' hj hj2 hk => by
            by_cases e : j = k
            · subst e
              rw [Hx.out] at hj; cases hj
              rw [Hy.out] at hj2; cases hj2
              exact hp
            · exact hall.out j x' y' hj hj2 (by omega)
          rw [hp] at q
          clear hp
          go_wp2_with fail
          refine wp_region_below wr.heap.size (by kernel_rfl) (by kernel_rfl) ?_
          repeat (
            with_reducible refine wpQuiet_step (fun K hK => ?_)
            go_simp
            refine hK _ ?_
            clear hK K)
          refine wpQuiet_nil ?_
          rintro _ ⟨p, rfl⟩
          go_wp2_with fail
          go_roundw
          case rel => exact ⟨k + 1, by omega, by go_num, Hall.out, bthen hb.out p.h⟩
          case measure => simp [intOf]; omega
      · have Hyes : Hid (tf (Pair eqC a b) = true) := tf_yes ⟨Hlen.out, fun j x y hx hy => hall.out j x y hx hy (by have := (List.getElem?_eq_some_iff.1 hx).1; omega)⟩
        go_wp2_with fail
        go_ret
        exact ⟨by rw [Hyes.out]; rfl, hb.out⟩
  · have hneq : ((a.length : Int) != (b.length : Int)) = true := by simp; omega
    have heql : ((a.length : Int) == (b.length : Int)) = false := by simp; omega
    have Hno : Hid (tf (Pair eqC a b) = false) := tf_no fun h => hlen h.1
    clear hlen
    go_enter Tryz.func28, Tryz.ntmps28
    go_wp2_with fail
    go_ret
    exact ⟨by rw [Hno.out]; rfl, Below.refl _ _⟩
theorem box_dd (w : World) (a b : Db) : ∃ w0, (w.alloc (.cells #[.int .i64 a.p.op, .string a.p.tb, .string a.p.co, .string a.p.to, .string a.p.key, .int .i64 a.p.tk, .int .i64 a.p.tm, .bool a.p.nl, .int .i64 a.p.dk, .int .i64 a.p.dn, .string a.p.ds, .slice a.A a.p.cols.length a.cap] 28)).alloc (.cells #[.int .i64 b.p.op, .string b.p.tb, .string b.p.co, .string b.p.to, .string b.p.key, .int .i64 b.p.tk, .int .i64 b.p.tm, .bool b.p.nl, .int .i64 b.p.dk, .int .i64 b.p.dn, .string b.p.ds, .slice b.A b.p.cols.length b.cap] 28) = w0 ∧ Below w.heap.size w w0 ∧ BlkN w0 w.heap.size (fD a) ∧ BlkN w0 (w.heap.size + 1) (fD b) ∧ w0.heap.size = w.heap.size + 2 :=
  ⟨_, rfl, below_two w _ _, (BlkN.new w _ (fD a) _ rfl).alloc (by simp) _, BlkN.new _ _ (fD b) _ (by simp), by simp⟩
set_option maxRecDepth 100000 in
set_option maxHeartbeats 1600000 in
theorem dsame_any (a b : Db) (w : World) (hA : DdlAt w w.heap.size a) (hB : DdlAt w w.heap.size b) (hl : a.p.cols.length ≤ 1000000) (hl2 : b.p.cols.length ≤ 1000000) :
    Calls Tryz.prog 13 #[DV a, DV b] w fun e w' => e = .returned (.bool (eqP a.parts b.parts && tf (Pair eqC a.p.cols b.p.cols))) ∧ Below w.heap.size w w' := by
  obtain ⟨w0, hw0, hb0, hX, hY, hs0⟩ := box_dd w a b
  have Hw0 := Lib.hid hw0; clear hw0
  have Hb0 := Lib.hid hb0
  have HA := Lib.hid (hA.to hb0); clear hA
  have HB := Lib.hid (hB.to hb0); clear hB hb0
  have HX := Lib.hid hX; clear hX
  have HY := Lib.hid hY; clear hY
  have Hs0 := Lib.hid hs0; clear hs0
  have hne : Nonempty (BelowBy w0.heap.size w0) := ⟨⟨w0, Below.refl _ _⟩⟩
  have HPa := Lib.hid (fun w => parts_any a w)
  have HPb := Lib.hid (fun w => parts_any b w)
  have HEq := Lib.hid (fun w' h1 h2 => equalC_any a.A b.A a.cap b.cap a.p.cols b.p.cols w' h1 h2 hl hl2)
  have q : ∀ w, (binOp .eql 55 (PV a.parts) (PV b.parts)).run Tryz.prog w = .ok (.bool (eqP a.parts b.parts)) w := fun w => run_eql_P w a.parts b.parts
  have X0 : ∀ p : BelowBy w0.heap.size w0, p.x.cell? ⟨w.heap.size, 0, none⟩ = some (.int .i64 a.p.op) := fun p => (HX.out.below p.h (by have := Hs0.out; omega)) 0 _ rfl
  have X1 : ∀ p : BelowBy w0.heap.size w0, p.x.cell? ⟨w.heap.size, 1, none⟩ = some (.string a.p.tb) := fun p => (HX.out.below p.h (by have := Hs0.out; omega)) 1 _ rfl
  have X2 : ∀ p : BelowBy w0.heap.size w0, p.x.cell? ⟨w.heap.size, 2, none⟩ = some (.string a.p.co) := fun p => (HX.out.below p.h (by have := Hs0.out; omega)) 2 _ rfl
  have X3 : ∀ p : BelowBy w0.heap.size w0, p.x.cell? ⟨w.heap.size, 3, none⟩ = some (.string a.p.to) := fun p => (HX.out.below p.h (by have := Hs0.out; omega)) 3 _ rfl
  have X4 : ∀ p : BelowBy w0.heap.size w0, p.x.cell? ⟨w.heap.size, 4, none⟩ = some (.string a.p.key) := fun p => (HX.out.below p.h (by have := Hs0.out; omega)) 4 _ rfl
  have X5 : ∀ p : BelowBy w0.heap.size w0, p.x.cell? ⟨w.heap.size, 5, none⟩ = some (.int .i64 a.p.tk) := fun p => (HX.out.below p.h (by have := Hs0.out; omega)) 5 _ rfl
  have X6 : ∀ p : BelowBy w0.heap.size w0, p.x.cell? ⟨w.heap.size, 6, none⟩ = some (.int .i64 a.p.tm) := fun p => (HX.out.below p.h (by have := Hs0.out; omega)) 6 _ rfl
  have X7 : ∀ p : BelowBy w0.heap.size w0, p.x.cell? ⟨w.heap.size, 7, none⟩ = some (.bool a.p.nl) := fun p => (HX.out.below p.h (by have := Hs0.out; omega)) 7 _ rfl
  have X8 : ∀ p : BelowBy w0.heap.size w0, p.x.cell? ⟨w.heap.size, 8, none⟩ = some (.int .i64 a.p.dk) := fun p => (HX.out.below p.h (by have := Hs0.out; omega)) 8 _ rfl
  have X9 : ∀ p : BelowBy w0.heap.size w0, p.x.cell? ⟨w.heap.size, 9, none⟩ = some (.int .i64 a.p.dn) := fun p => (HX.out.below p.h (by have := Hs0.out; omega)) 9 _ rfl
  have X10 : ∀ p : BelowBy w0.heap.size w0, p.x.cell? ⟨w.heap.size, 10, none⟩ = some (.string a.p.ds) := fun p => (HX.out.below p.h (by have := Hs0.out; omega)) 10 _ rfl
  have X11 : ∀ p : BelowBy w0.heap.size w0, p.x.cell? ⟨w.heap.size, 11, none⟩ = some (.slice a.A a.p.cols.length a.cap) := fun p => (HX.out.below p.h (by have := Hs0.out; omega)) 11 _ rfl
  have Y0 : ∀ p : BelowBy w0.heap.size w0, p.x.cell? ⟨w.heap.size + 1, 0, none⟩ = some (.int .i64 b.p.op) := fun p => (HY.out.below p.h (by have := Hs0.out; omega)) 0 _ rfl
  have Y1 : ∀ p : BelowBy w0.heap.size w0, p.x.cell? ⟨w.heap.size + 1, 1, none⟩ = some (.string b.p.tb) := fun p => (HY.out.below p.h (by have := Hs0.out; omega)) 1 _ rfl
  have Y2 : ∀ p : BelowBy w0.heap.size w0, p.x.cell? ⟨w.heap.size + 1, 2, none⟩ = some (.string b.p.co) := fun p => (HY.out.below p.h (by have := Hs0.out; omega)) 2 _ rfl
  have Y3 : ∀ p : BelowBy w0.heap.size w0, p.x.cell? ⟨w.heap.size + 1, 3, none⟩ = some (.string b.p.to) := fun p => (HY.out.below p.h (by have := Hs0.out; omega)) 3 _ rfl
  have Y4 : ∀ p : BelowBy w0.heap.size w0, p.x.cell? ⟨w.heap.size + 1, 4, none⟩ = some (.string b.p.key) := fun p => (HY.out.below p.h (by have := Hs0.out; omega)) 4 _ rfl
  have Y5 : ∀ p : BelowBy w0.heap.size w0, p.x.cell? ⟨w.heap.size + 1, 5, none⟩ = some (.int .i64 b.p.tk) := fun p => (HY.out.below p.h (by have := Hs0.out; omega)) 5 _ rfl
  have Y6 : ∀ p : BelowBy w0.heap.size w0, p.x.cell? ⟨w.heap.size + 1, 6, none⟩ = some (.int .i64 b.p.tm) := fun p => (HY.out.below p.h (by have := Hs0.out; omega)) 6 _ rfl
  have Y7 : ∀ p : BelowBy w0.heap.size w0, p.x.cell? ⟨w.heap.size + 1, 7, none⟩ = some (.bool b.p.nl) := fun p => (HY.out.below p.h (by have := Hs0.out; omega)) 7 _ rfl
  have Y8 : ∀ p : BelowBy w0.heap.size w0, p.x.cell? ⟨w.heap.size + 1, 8, none⟩ = some (.int .i64 b.p.dk) := fun p => (HY.out.below p.h (by have := Hs0.out; omega)) 8 _ rfl
  have Y9 : ∀ p : BelowBy w0.heap.size w0, p.x.cell? ⟨w.heap.size + 1, 9, none⟩ = some (.int .i64 b.p.dn) := fun p => (HY.out.below p.h (by have := Hs0.out; omega)) 9 _ rfl
  have Y10 : ∀ p : BelowBy w0.heap.size w0, p.x.cell? ⟨w.heap.size + 1, 10, none⟩ = some (.string b.p.ds) := fun p => (HY.out.below p.h (by have := Hs0.out; omega)) 10 _ rfl
  have Y11 : ∀ p : BelowBy w0.heap.size w0, p.x.cell? ⟨w.heap.size + 1, 11, none⟩ = some (.slice b.A b.p.cols.length b.cap) := fun p => (HY.out.below p.h (by have := Hs0.out; omega)) 11 _ rfl
  generalize a.parts = pa at HPa q ⊢
  generalize b.parts = pb at HPb q ⊢
  generalize eqP pa pb = e1 at q ⊢
  generalize tf (Pair eqC a.p.cols b.p.cols) = e2 at HEq ⊢
  cases e1
  · go_enter Tryz.func13, Tryz.ntmps13
    go_wp2_with fail
    rw [Hw0.out]
    refine wp_region_below w0.heap.size (by kernel_rfl) (by kernel_rfl) ?_
    repeat (
      with_reducible refine wpQuiet_step (fun K hK => ?_)
      go_simp
      refine hK _ ?_
      clear hK K)
    with_reducible refine wpQuiet_step (fun K hK => ?_)
    go_simp
    apply Exists.intro
    refine ⟨fun p => ?_, hK _ ?_⟩
    exact (HPa.out _).mono fun e w5 ⟨he, hb⟩ => ⟨he, p.step (Nat.le_refl _) hb⟩
    clear hK K
    repeat (
      with_reducible refine wpQuiet_step (fun K hK => ?_)
      go_simp
      refine hK _ ?_
      clear hK K)
    with_reducible refine wpQuiet_step (fun K hK => ?_)
    go_simp
    apply Exists.intro
    refine ⟨fun p => ?_, hK _ ?_⟩
    exact (HPb.out _).mono fun e w5 ⟨he, hb⟩ => ⟨he, p.step (Nat.le_refl _) hb⟩
    clear hK K
    repeat (
      with_reducible refine wpQuiet_step (fun K hK => ?_)
      go_simp
      refine hK _ ?_
      clear hK K)
    refine wpQuiet_nil ?_
    rintro _ ⟨p, rfl⟩
    go_wp2_with fail
    go_ret
    exact ⟨rfl, bthen Hb0.out p.h⟩
  · go_enter Tryz.func13, Tryz.ntmps13
    go_wp2_with fail
    rw [Hw0.out]
    refine wp_region_below w0.heap.size (by kernel_rfl) (by kernel_rfl) ?_
    repeat (
      with_reducible refine wpQuiet_step (fun K hK => ?_)
      go_simp
      refine hK _ ?_
      clear hK K)
    with_reducible refine wpQuiet_step (fun K hK => ?_)
    go_simp
    apply Exists.intro
    refine ⟨fun p => ?_, hK _ ?_⟩
    exact (HPa.out _).mono fun e w5 ⟨he, hb⟩ => ⟨he, p.step (Nat.le_refl _) hb⟩
    clear hK K
    repeat (
      with_reducible refine wpQuiet_step (fun K hK => ?_)
      go_simp
      refine hK _ ?_
      clear hK K)
    with_reducible refine wpQuiet_step (fun K hK => ?_)
    go_simp
    apply Exists.intro
    refine ⟨fun p => ?_, hK _ ?_⟩
    exact (HPb.out _).mono fun e w5 ⟨he, hb⟩ => ⟨he, p.step (Nat.le_refl _) hb⟩
    clear hK K
    repeat (
      with_reducible refine wpQuiet_step (fun K hK => ?_)
      go_simp
      refine hK _ ?_
      clear hK K)
    with_reducible refine wpQuiet_step (fun K hK => ?_)
    go_simp
    apply Exists.intro
    refine ⟨fun p => ?_, hK _ ?_⟩
    exact (HEq.out _ (RowAt.to HA.out p.h) (RowAt.to HB.out p.h)).mono fun e w5 ⟨he, hb⟩ => ⟨he, p.step (Nat.le_refl _) hb⟩
    clear hK K
    repeat (
      with_reducible refine wpQuiet_step (fun K hK => ?_)
      go_simp
      refine hK _ ?_
      clear hK K)
    refine wpQuiet_nil ?_
    rintro _ ⟨p, rfl⟩
    go_wp2_with fail
    go_ret
    exact ⟨rfl, bthen Hb0.out p.h⟩
end Go.Proofs.YtlbdbaafmdikcaaGreatDoor

/-
  Contract of the document's Same of changes.
-/
namespace Go.Proofs.YtlbdbaafmdikcaaGreatDoor
open Go.RowKit

/-- are two changes alike in all parts? -/
noncomputable def sameD (a b : Db) : Bool := (a.p.op == b.p.op) && ((a.p.tb.toList == b.p.tb.toList) && ((a.p.co.toList == b.p.co.toList) && ((a.p.to.toList == b.p.to.toList) && ((a.p.key.toList == b.p.key.toList) && ((a.p.tk == b.p.tk) && ((a.p.tm == b.p.tm) && ((a.p.nl == b.p.nl) && ((a.p.dk == b.p.dk) && ((a.p.dn == b.p.dn) && ((a.p.ds.toList == b.p.ds.toList) && tf (Pair eqC a.p.cols b.p.cols)))))))))))
set_option maxRecDepth 100000 in
set_option maxHeartbeats 2000000 in
theorem rsame9_any (a b : Db) (w : World) (hA : DdlAt w w.heap.size a) (hB : DdlAt w w.heap.size b) (hl : a.p.cols.length ≤ 1000000) (hl2 : b.p.cols.length ≤ 1000000) :
    Calls Tryz.prog 14 #[DV a, DV b] w fun e w' => e = .returned (.bool (sameD a b)) ∧ Below w.heap.size w w' := by
  obtain ⟨w0, hw0, hb0, hX, hY, hs0⟩ := box_dd w a b
  have Hw0 := Lib.hid hw0; clear hw0 hX hY hs0
  have Hb0 := Lib.hid hb0
  have HEq := Lib.hid (rsamec_any a.A b.A a.cap b.cap a.p.cols b.p.cols w0 (RowAt.to hA hb0) (RowAt.to hB hb0) hl hl2)
  rw [← Hw0.out] at HEq
  clear hA hB hb0
  have Hv : Hid (sameD a b = ((a.p.op == b.p.op) && ((a.p.tb.toList == b.p.tb.toList) && ((a.p.co.toList == b.p.co.toList) && ((a.p.to.toList == b.p.to.toList) && ((a.p.key.toList == b.p.key.toList) && ((a.p.tk == b.p.tk) && ((a.p.tm == b.p.tm) && ((a.p.nl == b.p.nl) && ((a.p.dk == b.p.dk) && ((a.p.dn == b.p.dn) && ((a.p.ds.toList == b.p.ds.toList) && tf (Pair eqC a.p.cols b.p.cols))))))))))))) := rfl
  generalize sameD a b = R at Hv ⊢
  generalize tf (Pair eqC a.p.cols b.p.cols) = e2 at HEq Hv
  cases h0 : (a.p.op == b.p.op)
  · rw [h0] at Hv
    go_enter Tryz.func14, Tryz.ntmps14
    go_wp2_with fail
    rw [Hw0.out]
    go_ret
    exact ⟨by rw [Hv.out]; rfl, Hb0.out⟩
  rw [h0] at Hv
  cases h1 : (a.p.tb.toList == b.p.tb.toList)
  · rw [h1] at Hv
    go_enter Tryz.func14, Tryz.ntmps14
    go_wp2_with fail
    rw [Hw0.out]
    go_ret
    exact ⟨by rw [Hv.out]; rfl, Hb0.out⟩
  rw [h1] at Hv
  cases h2 : (a.p.co.toList == b.p.co.toList)
  · rw [h2] at Hv
    go_enter Tryz.func14, Tryz.ntmps14
    go_wp2_with fail
    rw [Hw0.out]
    go_ret
    exact ⟨by rw [Hv.out]; rfl, Hb0.out⟩
  rw [h2] at Hv
  cases h3 : (a.p.to.toList == b.p.to.toList)
  · rw [h3] at Hv
    go_enter Tryz.func14, Tryz.ntmps14
    go_wp2_with fail
    rw [Hw0.out]
    go_ret
    exact ⟨by rw [Hv.out]; rfl, Hb0.out⟩
  rw [h3] at Hv
  cases h4 : (a.p.key.toList == b.p.key.toList)
  · rw [h4] at Hv
    go_enter Tryz.func14, Tryz.ntmps14
    go_wp2_with fail
    rw [Hw0.out]
    go_ret
    exact ⟨by rw [Hv.out]; rfl, Hb0.out⟩
  rw [h4] at Hv
  cases h5 : (a.p.tk == b.p.tk)
  · rw [h5] at Hv
    go_enter Tryz.func14, Tryz.ntmps14
    go_wp2_with fail
    rw [Hw0.out]
    go_ret
    exact ⟨by rw [Hv.out]; rfl, Hb0.out⟩
  rw [h5] at Hv
  cases h6 : (a.p.tm == b.p.tm)
  · rw [h6] at Hv
    go_enter Tryz.func14, Tryz.ntmps14
    go_wp2_with fail
    rw [Hw0.out]
    go_ret
    exact ⟨by rw [Hv.out]; rfl, Hb0.out⟩
  rw [h6] at Hv
  cases h7 : (a.p.nl == b.p.nl)
  · rw [h7] at Hv
    go_enter Tryz.func14, Tryz.ntmps14
    go_wp2_with fail
    rw [Hw0.out]
    go_ret
    exact ⟨by rw [Hv.out]; rfl, Hb0.out⟩
  rw [h7] at Hv
  cases h8 : (a.p.dk == b.p.dk)
  · rw [h8] at Hv
    go_enter Tryz.func14, Tryz.ntmps14
    go_wp2_with fail
    rw [Hw0.out]
    go_ret
    exact ⟨by rw [Hv.out]; rfl, Hb0.out⟩
  rw [h8] at Hv
  cases h9 : (a.p.dn == b.p.dn)
  · rw [h9] at Hv
    go_enter Tryz.func14, Tryz.ntmps14
    go_wp2_with fail
    rw [Hw0.out]
    go_ret
    exact ⟨by rw [Hv.out]; rfl, Hb0.out⟩
  rw [h9] at Hv
  cases h10 : (a.p.ds.toList == b.p.ds.toList)
  · rw [h10] at Hv
    go_enter Tryz.func14, Tryz.ntmps14
    go_wp2_with fail
    rw [Hw0.out]
    go_ret
    exact ⟨by rw [Hv.out]; rfl, Hb0.out⟩
  rw [h10] at Hv
  go_enter Tryz.func14, Tryz.ntmps14
  go_wp2_with fail
  refine HEq.out.mono ?_
  rintro e w1 ⟨rfl, hb1⟩
  rw [Hw0.out] at hb1
  have Hb1 := Lib.hid (bthen Hb0.out hb1); clear hb1
  go_wp2_with fail
  go_ret
  exact ⟨by rw [Hv.out]; rfl, Hb1.out⟩
end Go.Proofs.YtlbdbaafmdikcaaGreatDoor

/-
  Contracts of the law's own short, Few, FewAll, FewValues, FewFields and found of layer 8.
-/
namespace Go.Proofs.YtlbdbaafmdikcaaGreatDoor
open Go.RowKit

def shortB (s : ByteArray) : Bool := decide ((s.size : Int) ≤ 200)
theorem short8_any (s : ByteArray) (w : World) : Calls Tryz.prog 35 #[.string s] w fun e w' => e = .returned (.bool (shortB s)) ∧ w = w' := by
  go_enter Tryz.func35, Tryz.ntmps35
  go_wp2_with fail
  go_ret
  exact ⟨rfl, rfl⟩
def fewT (t : Tb) : Bool := decide ((t.cols.length : Int) ≤ 20) && (shortB t.nm && t.cols.all fun c => shortB c.nm && shortB c.ds)
def fewCat (l : List Tb) : Bool := decide ((l.length : Int) ≤ 10) && l.all fewT
def fewV (l : List Vb) : Bool := decide ((l.length : Int) ≤ 20) && l.all fun v => shortB v.2.2
def fewF (l : List Fb) : Bool := decide ((l.length : Int) ≤ 20) && l.all fun f => shortB f.nm && shortB f.s
theorem all_stop8 {α : Type} {p : α → Bool} {l : List α} {k : Nat} {x : α} (hx : l[k]? = some x) (h : p x = false) : l.all p = false := by
  cases e : l.all p with
  | false => rfl
  | true =>
    rw [List.all_eq_true] at e
    have := e x (List.mem_of_getElem? hx)
    rw [h] at this; cases this
theorem shortB_iff {s : ByteArray} : shortB s = true ↔ s.size ≤ 200 := by unfold shortB; rw [decide_eq_true_iff]; omega
theorem WfT_of {w : World} {t : Tb} (h : fewT t = true) (hi : InT w t) : WfT t := by
  unfold fewT at h
  simp only [Bool.and_eq_true, decide_eq_true_eq, List.all_eq_true, shortB_iff] at h
  obtain ⟨_, _, _, _, _, h6, _, h8⟩ := hi
  refine ⟨by omega, by omega, h6, fun c hc => ?_⟩
  have := h.2.2 c hc
  have hr := wf64 (h8 c hc).2.2.2.2.2.1
  exact ⟨by omega, hr.1, hr.2⟩

set_option maxRecDepth 100000 in
set_option maxHeartbeats 1600000 in
theorem few8_any (t : Tb) (w : World) (hA : TabAt w w.heap.size t) (hl : t.cols.length ≤ maxLen) :
    Calls Tryz.prog 23 #[TV t] w fun e w' => e = .returned (.bool (fewT t)) ∧ Below w.heap.size w w' := by
  unfold maxLen at hl
  obtain ⟨w0, hw0, hb0, hB, hs0⟩ := box_tab w t
  have Hw0 := Lib.hid hw0; clear hw0
  have Hb0 := Lib.hid hb0
  have HA := Lib.hid (RowAt.to hA hb0); clear hA hb0
  have HB := Lib.hid hB; clear hB
  have Hs0 := Lib.hid hs0; clear hs0
  have HN := Lib.hid (fun w => short8_any t.nm w)
  have Hv : Hid (fewT t = (decide ((t.cols.length : Int) ≤ 20) && (shortB t.nm && t.cols.all fun c => shortB c.nm && shortB c.ds))) := rfl
  have e1 : decide (20 < (t.cols.length : Int)) = !decide ((t.cols.length : Int) ≤ 20) := by apply bool_eq; simp
  generalize decide ((t.cols.length : Int) ≤ 20) = b1 at Hv e1
  generalize shortB t.nm = b2 at Hv HN
  cases b1
  · replace e1 : decide (20 < (t.cols.length : Int)) = true := e1
    go_enter Tryz.func23, Tryz.ntmps23
    go_wp2_with fail
    go_ret
    exact ⟨by rw [Hv.out]; rfl, by go_grown⟩
  replace e1 : decide (20 < (t.cols.length : Int)) = false := e1
  cases b2
  · go_enter Tryz.func23, Tryz.ntmps23
    go_wp2_with fail
    refine (HN.out _).mono ?_
    rintro e w1 ⟨rfl, rfl⟩
    go_wp2_with fail
    go_ret
    exact ⟨by rw [Hv.out]; rfl, by go_grown⟩
  replace Hv : Hid (fewT t = t.cols.all fun c => shortB c.nm && shortB c.ds) := by show _ = _; rw [Hv.out]; simp
  go_enter Tryz.func23, Tryz.ntmps23
  go_wp2_with fail
  refine (HN.out _).mono ?_
  rintro e w1 ⟨rfl, rfl⟩
  go_wp2_with fail
  rw [Hw0.out]
  clear e1 HN
  obtain ⟨c0, c1, c2, c3, c4⟩ := HB.out.tab
  have Hc4 := Lib.hid c4; clear c0 c1 c2 c3 c4
  go_loop [3] (fun i => ∃ k : Nat, k ≤ t.cols.length ∧ i = .int .i64 k ∧ Hid (∀ j c, t.cols[j]? = some c → j < k → (shortB c.nm && shortB c.ds) = true)) (fun i => t.cols.length - (intOf i).toNat)
  case atStart => exact ⟨0, by omega, rfl, fun j v _ h => absurd h (by omega)⟩
  case round =>
    obtain ⟨k, hk, rfl, hall⟩ := hrel
    by_cases hlt : k < t.cols.length
    · obtain ⟨x, hx⟩ : ∃ x, t.cols[k]? = some x := ⟨t.cols[k], by simp [hlt]⟩
      have Hx := Lib.hid hx
      obtain ⟨b, off, hAe, hbB, d0, d1, d2, d3, d4, d5, d6, d7⟩ := ColsAt.get HA.out k x hx
      have c4 : w0.cell? ⟨w.heap.size, 4, none⟩ = some (.slice (some ⟨b, off, none⟩) t.cols.length t.cap) := by rw [← hAe]; exact Hc4.out
      clear hAe hx
      have HN1 := Lib.hid (fun w => short8_any x.nm w)
      have HN2 := Lib.hid (fun w => short8_any x.ds w)
      cases h1 : shortB x.nm
      · have Hno : Hid ((t.cols.all fun c => shortB c.nm && shortB c.ds) = false) := all_stop8 Hx.out (by rw [h1]; rfl)
        rw [h1] at HN1
        go_wp2_with fail
        refine (HN1.out _).mono ?_
        rintro e w1 ⟨rfl, rfl⟩
        go_wp2_with fail
        go_ret
        exact ⟨by rw [Hv.out, Hno.out]; rfl, Hb0.out⟩
      · rw [h1] at HN1
        cases h2 : shortB x.ds
        · have Hno : Hid ((t.cols.all fun c => shortB c.nm && shortB c.ds) = false) := all_stop8 Hx.out (by rw [h1, h2]; rfl)
          rw [h2] at HN2
          go_wp2_with fail
          refine (HN1.out _).mono ?_
          rintro e w1 ⟨rfl, rfl⟩
          go_wp2_with fail
          refine (HN2.out _).mono ?_
          rintro e w1 ⟨rfl, rfl⟩
          go_wp2_with fail
          go_ret
          exact ⟨by rw [Hv.out, Hno.out]; rfl, Hb0.out⟩
        · have Hall : Hid (∀ j c, t.cols[j]? = some c → j < k + 1 → (shortB c.nm && shortB c.ds) = true) := fun j y hj hk => by
            by_cases e : j = k
            · subst e
              rw [Hx.out] at hj
              cases hj
              rw [h1, h2]; rfl
            · exact hall.out j y hj (by omega)
          rw [h2] at HN2
          go_wp2_with fail
          refine (HN1.out _).mono ?_
          rintro e w1 ⟨rfl, rfl⟩
          go_wp2_with fail
          refine (HN2.out _).mono ?_
          rintro e w1 ⟨rfl, rfl⟩
          go_wp2_with fail
          go_round
          case rel => exact ⟨k + 1, by omega, by go_num, Hall.out⟩
          case measure => simp [intOf]; omega
    · have c4 := Hc4.out
      have Hyes : Hid ((t.cols.all fun c => shortB c.nm && shortB c.ds) = true) := all_at fun j x hj => hall.out j x hj (by have := (List.getElem?_eq_some_iff.1 hj).1; omega)
      go_wp2_with fail
      go_ret
      exact ⟨by rw [Hv.out, Hyes.out]; rfl, Hb0.out⟩

set_option maxRecDepth 100000 in
set_option maxHeartbeats 1600000 in
theorem fewcat_any (A : Option Addr) (cp : Nat) (l : List Tb) (w : World) (hA : TabsAt w w.heap.size A l) (hl : l.length ≤ maxLen) (hi : ∀ t ∈ l, t.cols.length ≤ maxLen) :
    Calls Tryz.prog 15 #[.agg #[.slice A l.length cp]] w fun e w' => e = .returned (.bool (fewCat l)) ∧ Below w.heap.size w w' := by
  unfold maxLen at hl
  obtain ⟨w0, hw0, hb0, hB, hs0⟩ := box_one w (.slice A l.length cp) 37
  have Hw0 := Lib.hid hw0; clear hw0
  have Hb0 := Lib.hid hb0
  have HA := Lib.hid (hA.to hb0); clear hA hb0
  have HB := Lib.hid hB.one; clear hB
  have Hs0 := Lib.hid hs0; clear hs0
  have HI := Lib.hid hi; clear hi
  have Hv : Hid (fewCat l = (decide ((l.length : Int) ≤ 10) && l.all fewT)) := rfl
  have e1 : decide (10 < (l.length : Int)) = !decide ((l.length : Int) ≤ 10) := by apply bool_eq; simp
  generalize decide ((l.length : Int) ≤ 10) = b1 at Hv e1
  cases b1
  · replace e1 : decide (10 < (l.length : Int)) = true := e1
    go_enter Tryz.func15, Tryz.ntmps15
    go_wp2_with fail
    go_ret
    exact ⟨by rw [Hv.out]; rfl, by go_grown⟩
  replace e1 : decide (10 < (l.length : Int)) = false := e1
  replace Hv : Hid (fewCat l = l.all fewT) := by show _ = _; rw [Hv.out]; simp
  go_enter Tryz.func15, Tryz.ntmps15
  go_wp2_with fail
  rw [Hw0.out]
  clear e1
  go_loopw [3] (fun i wr => ∃ k : Nat, k ≤ l.length ∧ i = .int .i64 k ∧ Hid (∀ j c, l[j]? = some c → j < k → fewT c = true) ∧ Hid (Below w0.heap.size w0 wr)) (fun i _ => l.length - (intOf i).toNat)
  case atStart => exact ⟨0, by omega, rfl, fun j v _ h => absurd h (by omega), Below.refl _ _⟩
  case round =>
    obtain ⟨k, hk, rfl, hall, hb⟩ := hrel
    have Hbw := Lib.hid (bthen Hb0.out hb.out)
    have c0 : wr.cell? ⟨w.heap.size, 0, none⟩ = some (.slice A l.length cp) := (hb.out.cell (by have := Hs0.out; simp; omega)).trans HB.out
    by_cases hlt : k < l.length
    · obtain ⟨x, hx⟩ : ∃ x, l[k]? = some x := ⟨l[k], by simp [hlt]⟩
      have Hx := Lib.hid hx
      obtain ⟨b, off, hAe, hbB, d0, d1, d2, d3, d4⟩ := (HA.out.below hb.out).get k x hx
      rw [hAe] at c0
      have HF := Lib.hid (few8_any x wr ((HA.out.to hb.out).2 x (List.mem_of_getElem? hx)) (HI.out x (List.mem_of_getElem? hx)))
      clear hAe hx
      cases hp : fewT x
      · have Hno : Hid (l.all fewT = false) := all_stop8 Hx.out hp
        rw [hp] at HF
        clear hp
        go_wp2_with fail
        refine HF.out.mono ?_
        rintro e w1 ⟨rfl, hb1⟩
        have Hb1 := Lib.hid (bthen Hbw.out hb1); clear hb1
        go_wp2_with fail
        go_ret
        exact ⟨by rw [Hv.out, Hno.out]; rfl, Hb1.out⟩
      · have Hall : Hid (∀ j c, l[j]? = some c → j < k + 1 → fewT c = true) := fun j y hj hk => by
          by_cases e : j = k
          · subst e
            rw [Hx.out] at hj
            cases hj
            exact hp
          · exact hall.out j y hj (by omega)
        rw [hp] at HF
        clear hp
        go_wp2_with fail
        refine HF.out.mono ?_
        rintro e w1 ⟨rfl, hb1⟩
        have Hb1 := Lib.hid (bthen hb.out hb1); clear hb1
        go_wp2_with fail
        go_roundw
        case rel => exact ⟨k + 1, by omega, by go_num, Hall.out, Hb1.out⟩
        case measure => simp [intOf]; omega
    · have Hyes : Hid (l.all fewT = true) := all_at fun j x hj => hall.out j x hj (by have := (List.getElem?_eq_some_iff.1 hj).1; omega)
      go_wp2_with fail
      go_ret
      exact ⟨by rw [Hv.out, Hyes.out]; rfl, Hbw.out⟩

end Go.Proofs.YtlbdbaafmdikcaaGreatDoor

/-
  When two changes are alike; what a change of its kind keeps of another one (layer 9).
-/
namespace Go.Proofs.YtlbdbaafmdikcaaGreatDoor
open Go.RowKit

/-- a cell's fact at every world behind -/
theorem keepP {w : World} {ad : Addr} {v : Value} (h : w.cell? ad = some v) : ∀ p : BelowBy w.heap.size w, p.x.cell? ad = some v := fun p => (p.h.cell (World.block_lt_of_cell? w ad h)).trans h
theorem toList_eqB {a b : ByteArray} : a.toList = b.toList ↔ a = b := ⟨fun h => eqS_iff.1 (beq_iff_eq.2 h), fun h => by rw [h]⟩
theorem sameD_iff (a b : Db) : sameD a b = true ↔ a.p.op = b.p.op ∧ a.p.tb = b.p.tb ∧ a.p.co = b.p.co ∧ a.p.to = b.p.to ∧ a.p.key = b.p.key ∧ a.p.tk = b.p.tk ∧ a.p.tm = b.p.tm ∧ a.p.nl = b.p.nl ∧ a.p.dk = b.p.dk ∧ a.p.dn = b.p.dn ∧ a.p.ds = b.p.ds ∧ Pair eqC a.p.cols b.p.cols := by
  unfold sameD
  simp only [Bool.and_eq_true, beq_iff_eq, toList_eqB, tf_iff]
theorem eqP_iff (a b : Pp) : eqP a b = true ↔ a.op = b.op ∧ a.tb = b.tb ∧ a.co = b.co ∧ a.to = b.to ∧ a.key = b.key ∧ a.tk = b.tk ∧ a.tm = b.tm ∧ a.nl = b.nl ∧ a.dk = b.dk ∧ a.dn = b.dn ∧ a.ds = b.ds ∧ a.n = b.n := by
  unfold eqP
  simp only [Bool.and_eq_true, beq_iff_eq, toList_eqB]
theorem eqP_same (a b : Db) : (eqP a.parts b.parts && tf (Pair eqC a.p.cols b.p.cols)) = sameD a b := by
  apply bool_eq
  rw [sameD_iff, Bool.and_eq_true, eqP_iff, tf_iff]
  constructor
  · rintro ⟨⟨h1, h2, h3, h4, h5, h6, h7, h8, h9, h10, h11, _⟩, h⟩
    exact ⟨h1, h2, h3, h4, h5, h6, h7, h8, h9, h10, h11, h⟩
  · rintro ⟨h1, h2, h3, h4, h5, h6, h7, h8, h9, h10, h11, h⟩
    exact ⟨⟨h1, h2, h3, h4, h5, h6, h7, h8, h9, h10, h11, by show (a.p.cols.length : Int) = b.p.cols.length; rw [h.1]⟩, h⟩
theorem sameD_self (a : Db) : sameD a a = true := (sameD_iff a a).2 ⟨rfl, rfl, rfl, rfl, rfl, rfl, rfl, rfl, rfl, rfl, rfl, tf_iff.1 (pair_self eqC_self _)⟩
theorem eqP_self (a : Db) : (eqP a.parts a.parts && tf (Pair eqC a.p.cols a.p.cols)) = true := by rw [eqP_same, sameD_self]
theorem pair_nil (l : List Cb) : Pair eqC [] l ↔ l = [] := by
  constructor
  · rintro ⟨h, _⟩
    exact List.eq_nil_of_length_eq_zero h.symm
  · rintro rfl
    exact ⟨rfl, fun j x y h _ => by simp at h⟩
theorem pair_refl (l : List Cb) : Pair eqC l l := tf_iff.1 (pair_self eqC_self l)
theorem nul_iff {k n : Int} {s : ByteArray} : nulV k n s = true ↔ k = 0 ∧ n = 0 ∧ s = ByteArray.empty := by
  unfold nulV
  simp only [Bool.and_eq_true, beq_iff_eq, toList_eqB]
theorem emp_iff {s : ByteArray} : emp s = true ↔ s = ByteArray.empty := by unfold emp; rw [eqS_iff]
theorem zTy_iff {d : Dp} : zTy d = true ↔ d.tk = 0 ∧ d.tm = 0 := by unfold zTy; simp only [Bool.and_eq_true, beq_iff_eq]
theorem zDf_iff {d : Dp} : zDf d = true ↔ d.dk = 0 ∧ d.dn = 0 ∧ d.ds = ByteArray.empty := by unfold zDf; rw [nul_iff]
theorem zCo_iff {d : Dp} : zCo d = true ↔ d.cols = [] := by unfold zCo; rw [List.isEmpty_iff]
theorem nl_iff {b : Bool} : (!b) = true ↔ b = false := by cases b <;> simp
abbrev bEmp : ByteArray := ByteArray.empty
/-- what a change of its kind has of another one -/
def keptD (d : Dp) : Dp :=
  if d.op = 1 then ⟨d.op, d.tb, bEmp, bEmp, d.key, 0, 0, false, 0, 0, bEmp, d.cols⟩
  else if d.op = 2 then ⟨d.op, d.tb, bEmp, bEmp, bEmp, 0, 0, false, 0, 0, bEmp, []⟩
  else if d.op = 3 then ⟨d.op, d.tb, bEmp, d.to, bEmp, 0, 0, false, 0, 0, bEmp, []⟩
  else if d.op = 4 then ⟨d.op, d.tb, d.co, bEmp, bEmp, d.tk, d.tm, d.nl, d.dk, d.dn, d.ds, []⟩
  else if d.op = 5 then ⟨d.op, d.tb, d.co, bEmp, bEmp, 0, 0, false, 0, 0, bEmp, []⟩
  else if d.op = 6 then ⟨d.op, d.tb, d.co, d.to, bEmp, 0, 0, false, 0, 0, bEmp, []⟩
  else if d.op = 7 then ⟨d.op, d.tb, d.co, bEmp, bEmp, d.tk, d.tm, false, 0, 0, bEmp, []⟩
  else ⟨d.op, d.tb, d.co, bEmp, bEmp, 0, 0, false, d.dk, d.dn, d.ds, []⟩
theorem kept_plain (d : Db) (x : Db) (hx : x.p = keptD d.p) (h : d.p.op = 1 ∨ d.p.op = 2 ∨ d.p.op = 3 ∨ d.p.op = 4 ∨ d.p.op = 5 ∨ d.p.op = 6 ∨ d.p.op = 7 ∨ d.p.op = 8) (h1 : d.p.op = 1 → (d.p.cols.all fun c => c.id == 0) = true) : sameD x d = plainD d.p := by
  apply bool_eq
  rw [sameD_iff, hx]
  unfold keptD plainD
  rcases h with e | e | e | e | e | e | e | e
  · have h0 := h1 e
    rw [if_pos e, if_pos e, h0]
    simp only [Bool.and_eq_true, emp_iff, zTy_iff, zDf_iff, nl_iff]
    constructor
    · rintro ⟨_, _, a, b, _, c, f, g, i, j, k, _⟩
      exact ⟨a.symm, b.symm, ⟨c.symm, f.symm⟩, g.symm, ⟨i.symm, j.symm, k.symm⟩, trivial⟩
    · rintro ⟨a, b, ⟨c, f⟩, g, ⟨i, j, k⟩, _⟩
      exact ⟨trivial, trivial, a.symm, b.symm, trivial, c.symm, f.symm, g.symm, i.symm, j.symm, k.symm, pair_refl _⟩
  all_goals
    simp only [e, if_pos, reduceIte, Int.reduceEq]
    simp only [Bool.and_eq_true, emp_iff, zTy_iff, zDf_iff, zCo_iff, nl_iff, pair_nil, true_and, and_assoc, eq_comm (a := bEmp), eq_comm (a := (0 : Int)), eq_comm (a := false)]
end Go.Proofs.YtlbdbaafmdikcaaGreatDoor

/-
  Contract of the document's own Plain of layer 9.
-/
namespace Go.Proofs.YtlbdbaafmdikcaaGreatDoor
open Go.RowKit

/-- a change in its box, and another one -/
theorem box_dxd (w : World) (d x : Db) : ∃ w0, ((w.alloc (.cells #[.int .i64 d.p.op, .string d.p.tb, .string d.p.co, .string d.p.to, .string d.p.key, .int .i64 d.p.tk, .int .i64 d.p.tm, .bool d.p.nl, .int .i64 d.p.dk, .int .i64 d.p.dn, .string d.p.ds, .slice d.A d.p.cols.length d.cap] 28)).alloc (.cells #[.int .i64 x.p.op, .string x.p.tb, .string x.p.co, .string x.p.to, .string x.p.key, .int .i64 x.p.tk, .int .i64 x.p.tm, .bool x.p.nl, .int .i64 x.p.dk, .int .i64 x.p.dn, .string x.p.ds, .slice x.A x.p.cols.length x.cap] 28)).drew = w0 ∧
    Below w.heap.size w w0 ∧ BlkN w0 w.heap.size (fD d) ∧ BlkN w0 (w.heap.size + 1) (fD x) ∧ w0.heap.size = w.heap.size + 2 :=
  ⟨_, rfl, (below_two w _ _).drew, fun i v hv => ((BlkN.new w _ (fD d) _ rfl).alloc (by simp) (.cells (fD x).toArray 28)) i v hv, fun i v hv => (BlkN.new (w.alloc (.cells (fD d).toArray 28)) _ (fD x) 28 (by simp)) i v hv, by simp⟩
theorem cols_stop {l : List Cb} {k : Nat} {x : Cb} (hx : l[k]? = some x) (h : (x.id == 0) = false) : (l.all fun c => c.id == 0) = false := all_stop8 hx h
set_option maxRecDepth 100000 in
set_option maxHeartbeats 6000000 in
theorem rplain_any (d : Db) (w : World) (hD : DdlAt w w.heap.size d) (hl : d.p.cols.length ≤ 1000000) : Calls Tryz.prog 9 #[DV d] w fun e w' => e = .returned (.bool (plainD d.p)) ∧ Below w.heap.size w w' := by
  have HD := Lib.hid hD; clear hD
  have HS := Lib.hid (fun (x : Db) (w' : World) (hx : DdlAt w' w'.heap.size x) (hd : DdlAt w' w'.heap.size d) (hxl : x.p.cols.length ≤ 1000000) => rsame9_any x d w' hx hd hxl hl)
  by_cases e2 : d.p.op = 2
  · have Hv : Hid (sameD ⟨⟨d.p.op, d.p.tb, ⟨#[]⟩, ⟨#[]⟩, ⟨#[]⟩, 0, 0, false, 0, 0, ⟨#[]⟩, []⟩, none, 0⟩ d = plainD d.p) := kept_plain d ⟨⟨d.p.op, d.p.tb, ⟨#[]⟩, ⟨#[]⟩, ⟨#[]⟩, 0, 0, false, 0, 0, ⟨#[]⟩, []⟩, none, 0⟩ (by unfold keptD; simp only [e2, reduceIte, Int.reduceEq]; rfl) (by omega) (by omega)
    have HS1 : Hid (∀ w', DdlAt w' w'.heap.size d → Calls Tryz.prog 14 #[DV ⟨⟨d.p.op, d.p.tb, ⟨#[]⟩, ⟨#[]⟩, ⟨#[]⟩, 0, 0, false, 0, 0, ⟨#[]⟩, []⟩, none, 0⟩, DV d] w' fun e w2 => e = .returned (.bool (plainD d.p)) ∧ Below w'.heap.size w' w2) := fun w' h => by
      have h1 := HS.out ⟨⟨d.p.op, d.p.tb, ⟨#[]⟩, ⟨#[]⟩, ⟨#[]⟩, 0, 0, false, 0, 0, ⟨#[]⟩, []⟩, none, 0⟩ w' (fun h0 => absurd h0 (by simp)) h (by simp)
      rwa [Hv.out] at h1
    clear Hv HS
    generalize plainD d.p = R at HS1 ⊢
    have q1 : (d.p.op == 1) = false := by rw [beq_eq_false_iff_ne]; omega
    have q2 : (d.p.op == 2) = true := by rw [beq_iff_eq]; omega
    clear e2
    go_enter Tryz.func9, Tryz.ntmps9
    go_wp2_with fail
    refine (HS1.out _ (HD.out.to (by go_grown))).mono ?_
    rintro e w1 ⟨rfl, hb1⟩
    have Hb1 : Hid (Below w.heap.size w w1) := bthen (by go_grown) hb1
    clear hb1
    go_wp2_with fail
    go_ret
    exact ⟨rfl, Hb1.out⟩
  by_cases e3 : d.p.op = 3
  · have Hv : Hid (sameD ⟨⟨d.p.op, d.p.tb, ⟨#[]⟩, d.p.to, ⟨#[]⟩, 0, 0, false, 0, 0, ⟨#[]⟩, []⟩, none, 0⟩ d = plainD d.p) := kept_plain d ⟨⟨d.p.op, d.p.tb, ⟨#[]⟩, d.p.to, ⟨#[]⟩, 0, 0, false, 0, 0, ⟨#[]⟩, []⟩, none, 0⟩ (by unfold keptD; simp only [e3, reduceIte, Int.reduceEq]; rfl) (by omega) (by omega)
    have HS1 : Hid (∀ w', DdlAt w' w'.heap.size d → Calls Tryz.prog 14 #[DV ⟨⟨d.p.op, d.p.tb, ⟨#[]⟩, d.p.to, ⟨#[]⟩, 0, 0, false, 0, 0, ⟨#[]⟩, []⟩, none, 0⟩, DV d] w' fun e w2 => e = .returned (.bool (plainD d.p)) ∧ Below w'.heap.size w' w2) := fun w' h => by
      have h1 := HS.out ⟨⟨d.p.op, d.p.tb, ⟨#[]⟩, d.p.to, ⟨#[]⟩, 0, 0, false, 0, 0, ⟨#[]⟩, []⟩, none, 0⟩ w' (fun h0 => absurd h0 (by simp)) h (by simp)
      rwa [Hv.out] at h1
    clear Hv HS
    generalize plainD d.p = R at HS1 ⊢
    have q1 : (d.p.op == 1) = false := by rw [beq_eq_false_iff_ne]; omega
    have q2 : (d.p.op == 2) = false := by rw [beq_eq_false_iff_ne]; omega
    have q3 : (d.p.op == 3) = true := by rw [beq_iff_eq]; omega
    clear e2 e3
    go_enter Tryz.func9, Tryz.ntmps9
    go_wp2_with fail
    refine (HS1.out _ (HD.out.to (by go_grown))).mono ?_
    rintro e w1 ⟨rfl, hb1⟩
    have Hb1 : Hid (Below w.heap.size w w1) := bthen (by go_grown) hb1
    clear hb1
    go_wp2_with fail
    go_ret
    exact ⟨rfl, Hb1.out⟩
  by_cases e4 : d.p.op = 4
  · have Hv : Hid (sameD ⟨⟨d.p.op, d.p.tb, d.p.co, ⟨#[]⟩, ⟨#[]⟩, d.p.tk, d.p.tm, d.p.nl, d.p.dk, d.p.dn, d.p.ds, []⟩, none, 0⟩ d = plainD d.p) := kept_plain d ⟨⟨d.p.op, d.p.tb, d.p.co, ⟨#[]⟩, ⟨#[]⟩, d.p.tk, d.p.tm, d.p.nl, d.p.dk, d.p.dn, d.p.ds, []⟩, none, 0⟩ (by unfold keptD; simp only [e4, reduceIte, Int.reduceEq]; rfl) (by omega) (by omega)
    have HS1 : Hid (∀ w', DdlAt w' w'.heap.size d → Calls Tryz.prog 14 #[DV ⟨⟨d.p.op, d.p.tb, d.p.co, ⟨#[]⟩, ⟨#[]⟩, d.p.tk, d.p.tm, d.p.nl, d.p.dk, d.p.dn, d.p.ds, []⟩, none, 0⟩, DV d] w' fun e w2 => e = .returned (.bool (plainD d.p)) ∧ Below w'.heap.size w' w2) := fun w' h => by
      have h1 := HS.out ⟨⟨d.p.op, d.p.tb, d.p.co, ⟨#[]⟩, ⟨#[]⟩, d.p.tk, d.p.tm, d.p.nl, d.p.dk, d.p.dn, d.p.ds, []⟩, none, 0⟩ w' (fun h0 => absurd h0 (by simp)) h (by simp)
      rwa [Hv.out] at h1
    clear Hv HS
    generalize plainD d.p = R at HS1 ⊢
    have q1 : (d.p.op == 1) = false := by rw [beq_eq_false_iff_ne]; omega
    have q2 : (d.p.op == 2) = false := by rw [beq_eq_false_iff_ne]; omega
    have q3 : (d.p.op == 3) = false := by rw [beq_eq_false_iff_ne]; omega
    have q4 : (d.p.op == 4) = true := by rw [beq_iff_eq]; omega
    clear e2 e3 e4
    go_enter Tryz.func9, Tryz.ntmps9
    go_wp2_with fail
    go_region
    go_wp2_with fail
    refine (HS1.out _ (HD.out.to (by go_grown))).mono ?_
    rintro e w1 ⟨rfl, hb1⟩
    have Hb1 : Hid (Below w.heap.size w w1) := bthen (by go_grown) hb1
    clear hb1
    go_wp2_with fail
    go_ret
    exact ⟨rfl, Hb1.out⟩
  by_cases e5 : d.p.op = 5
  · have Hv : Hid (sameD ⟨⟨d.p.op, d.p.tb, d.p.co, ⟨#[]⟩, ⟨#[]⟩, 0, 0, false, 0, 0, ⟨#[]⟩, []⟩, none, 0⟩ d = plainD d.p) := kept_plain d ⟨⟨d.p.op, d.p.tb, d.p.co, ⟨#[]⟩, ⟨#[]⟩, 0, 0, false, 0, 0, ⟨#[]⟩, []⟩, none, 0⟩ (by unfold keptD; simp only [e5, reduceIte, Int.reduceEq]; rfl) (by omega) (by omega)
    have HS1 : Hid (∀ w', DdlAt w' w'.heap.size d → Calls Tryz.prog 14 #[DV ⟨⟨d.p.op, d.p.tb, d.p.co, ⟨#[]⟩, ⟨#[]⟩, 0, 0, false, 0, 0, ⟨#[]⟩, []⟩, none, 0⟩, DV d] w' fun e w2 => e = .returned (.bool (plainD d.p)) ∧ Below w'.heap.size w' w2) := fun w' h => by
      have h1 := HS.out ⟨⟨d.p.op, d.p.tb, d.p.co, ⟨#[]⟩, ⟨#[]⟩, 0, 0, false, 0, 0, ⟨#[]⟩, []⟩, none, 0⟩ w' (fun h0 => absurd h0 (by simp)) h (by simp)
      rwa [Hv.out] at h1
    clear Hv HS
    generalize plainD d.p = R at HS1 ⊢
    have q1 : (d.p.op == 1) = false := by rw [beq_eq_false_iff_ne]; omega
    have q2 : (d.p.op == 2) = false := by rw [beq_eq_false_iff_ne]; omega
    have q3 : (d.p.op == 3) = false := by rw [beq_eq_false_iff_ne]; omega
    have q4 : (d.p.op == 4) = false := by rw [beq_eq_false_iff_ne]; omega
    have q5 : (d.p.op == 5) = true := by rw [beq_iff_eq]; omega
    clear e2 e3 e4 e5
    go_enter Tryz.func9, Tryz.ntmps9
    go_wp2_with fail
    refine (HS1.out _ (HD.out.to (by go_grown))).mono ?_
    rintro e w1 ⟨rfl, hb1⟩
    have Hb1 : Hid (Below w.heap.size w w1) := bthen (by go_grown) hb1
    clear hb1
    go_wp2_with fail
    go_ret
    exact ⟨rfl, Hb1.out⟩
  by_cases e6 : d.p.op = 6
  · have Hv : Hid (sameD ⟨⟨d.p.op, d.p.tb, d.p.co, d.p.to, ⟨#[]⟩, 0, 0, false, 0, 0, ⟨#[]⟩, []⟩, none, 0⟩ d = plainD d.p) := kept_plain d ⟨⟨d.p.op, d.p.tb, d.p.co, d.p.to, ⟨#[]⟩, 0, 0, false, 0, 0, ⟨#[]⟩, []⟩, none, 0⟩ (by unfold keptD; simp only [e6, reduceIte, Int.reduceEq]; rfl) (by omega) (by omega)
    have HS1 : Hid (∀ w', DdlAt w' w'.heap.size d → Calls Tryz.prog 14 #[DV ⟨⟨d.p.op, d.p.tb, d.p.co, d.p.to, ⟨#[]⟩, 0, 0, false, 0, 0, ⟨#[]⟩, []⟩, none, 0⟩, DV d] w' fun e w2 => e = .returned (.bool (plainD d.p)) ∧ Below w'.heap.size w' w2) := fun w' h => by
      have h1 := HS.out ⟨⟨d.p.op, d.p.tb, d.p.co, d.p.to, ⟨#[]⟩, 0, 0, false, 0, 0, ⟨#[]⟩, []⟩, none, 0⟩ w' (fun h0 => absurd h0 (by simp)) h (by simp)
      rwa [Hv.out] at h1
    clear Hv HS
    generalize plainD d.p = R at HS1 ⊢
    have q1 : (d.p.op == 1) = false := by rw [beq_eq_false_iff_ne]; omega
    have q2 : (d.p.op == 2) = false := by rw [beq_eq_false_iff_ne]; omega
    have q3 : (d.p.op == 3) = false := by rw [beq_eq_false_iff_ne]; omega
    have q4 : (d.p.op == 4) = false := by rw [beq_eq_false_iff_ne]; omega
    have q5 : (d.p.op == 5) = false := by rw [beq_eq_false_iff_ne]; omega
    have q6 : (d.p.op == 6) = true := by rw [beq_iff_eq]; omega
    clear e2 e3 e4 e5 e6
    go_enter Tryz.func9, Tryz.ntmps9
    go_wp2_with fail
    go_region
    go_wp2_with fail
    refine (HS1.out _ (HD.out.to (by go_grown))).mono ?_
    rintro e w1 ⟨rfl, hb1⟩
    have Hb1 : Hid (Below w.heap.size w w1) := bthen (by go_grown) hb1
    clear hb1
    go_wp2_with fail
    go_ret
    exact ⟨rfl, Hb1.out⟩
  by_cases e7 : d.p.op = 7
  · have Hv : Hid (sameD ⟨⟨d.p.op, d.p.tb, d.p.co, ⟨#[]⟩, ⟨#[]⟩, d.p.tk, d.p.tm, false, 0, 0, ⟨#[]⟩, []⟩, none, 0⟩ d = plainD d.p) := kept_plain d ⟨⟨d.p.op, d.p.tb, d.p.co, ⟨#[]⟩, ⟨#[]⟩, d.p.tk, d.p.tm, false, 0, 0, ⟨#[]⟩, []⟩, none, 0⟩ (by unfold keptD; simp only [e7, reduceIte, Int.reduceEq]; rfl) (by omega) (by omega)
    have HS1 : Hid (∀ w', DdlAt w' w'.heap.size d → Calls Tryz.prog 14 #[DV ⟨⟨d.p.op, d.p.tb, d.p.co, ⟨#[]⟩, ⟨#[]⟩, d.p.tk, d.p.tm, false, 0, 0, ⟨#[]⟩, []⟩, none, 0⟩, DV d] w' fun e w2 => e = .returned (.bool (plainD d.p)) ∧ Below w'.heap.size w' w2) := fun w' h => by
      have h1 := HS.out ⟨⟨d.p.op, d.p.tb, d.p.co, ⟨#[]⟩, ⟨#[]⟩, d.p.tk, d.p.tm, false, 0, 0, ⟨#[]⟩, []⟩, none, 0⟩ w' (fun h0 => absurd h0 (by simp)) h (by simp)
      rwa [Hv.out] at h1
    clear Hv HS
    generalize plainD d.p = R at HS1 ⊢
    have q1 : (d.p.op == 1) = false := by rw [beq_eq_false_iff_ne]; omega
    have q2 : (d.p.op == 2) = false := by rw [beq_eq_false_iff_ne]; omega
    have q3 : (d.p.op == 3) = false := by rw [beq_eq_false_iff_ne]; omega
    have q4 : (d.p.op == 4) = false := by rw [beq_eq_false_iff_ne]; omega
    have q5 : (d.p.op == 5) = false := by rw [beq_eq_false_iff_ne]; omega
    have q6 : (d.p.op == 6) = false := by rw [beq_eq_false_iff_ne]; omega
    have q7 : (d.p.op == 7) = true := by rw [beq_iff_eq]; omega
    clear e2 e3 e4 e5 e6 e7
    go_enter Tryz.func9, Tryz.ntmps9
    go_wp2_with fail
    go_region
    go_wp2_with fail
    refine (HS1.out _ (HD.out.to (by go_grown))).mono ?_
    rintro e w1 ⟨rfl, hb1⟩
    have Hb1 : Hid (Below w.heap.size w w1) := bthen (by go_grown) hb1
    clear hb1
    go_wp2_with fail
    go_ret
    exact ⟨rfl, Hb1.out⟩
  by_cases e8 : d.p.op = 8
  · have Hv : Hid (sameD ⟨⟨d.p.op, d.p.tb, d.p.co, ⟨#[]⟩, ⟨#[]⟩, 0, 0, false, d.p.dk, d.p.dn, d.p.ds, []⟩, none, 0⟩ d = plainD d.p) := kept_plain d ⟨⟨d.p.op, d.p.tb, d.p.co, ⟨#[]⟩, ⟨#[]⟩, 0, 0, false, d.p.dk, d.p.dn, d.p.ds, []⟩, none, 0⟩ (by unfold keptD; simp only [e8, reduceIte, Int.reduceEq]; rfl) (by omega) (by omega)
    have HS1 : Hid (∀ w', DdlAt w' w'.heap.size d → Calls Tryz.prog 14 #[DV ⟨⟨d.p.op, d.p.tb, d.p.co, ⟨#[]⟩, ⟨#[]⟩, 0, 0, false, d.p.dk, d.p.dn, d.p.ds, []⟩, none, 0⟩, DV d] w' fun e w2 => e = .returned (.bool (plainD d.p)) ∧ Below w'.heap.size w' w2) := fun w' h => by
      have h1 := HS.out ⟨⟨d.p.op, d.p.tb, d.p.co, ⟨#[]⟩, ⟨#[]⟩, 0, 0, false, d.p.dk, d.p.dn, d.p.ds, []⟩, none, 0⟩ w' (fun h0 => absurd h0 (by simp)) h (by simp)
      rwa [Hv.out] at h1
    clear Hv HS
    generalize plainD d.p = R at HS1 ⊢
    have q1 : (d.p.op == 1) = false := by rw [beq_eq_false_iff_ne]; omega
    have q2 : (d.p.op == 2) = false := by rw [beq_eq_false_iff_ne]; omega
    have q3 : (d.p.op == 3) = false := by rw [beq_eq_false_iff_ne]; omega
    have q4 : (d.p.op == 4) = false := by rw [beq_eq_false_iff_ne]; omega
    have q5 : (d.p.op == 5) = false := by rw [beq_eq_false_iff_ne]; omega
    have q6 : (d.p.op == 6) = false := by rw [beq_eq_false_iff_ne]; omega
    have q7 : (d.p.op == 7) = false := by rw [beq_eq_false_iff_ne]; omega
    have q8 : (d.p.op == 8) = true := by rw [beq_iff_eq]; omega
    clear e2 e3 e4 e5 e6 e7 e8
    go_enter Tryz.func9, Tryz.ntmps9
    go_wp2_with fail
    go_region
    go_wp2_with fail
    refine (HS1.out _ (HD.out.to (by go_grown))).mono ?_
    rintro e w1 ⟨rfl, hb1⟩
    have Hb1 : Hid (Below w.heap.size w w1) := bthen (by go_grown) hb1
    clear hb1
    go_wp2_with fail
    go_ret
    exact ⟨rfl, Hb1.out⟩
  by_cases e1 : d.p.op = 1
  · have Hl := Lib.hid hl; clear hl
    have q1 : (d.p.op == 1) = true := by rw [beq_iff_eq]; omega
    have E1 := Lib.hid e1
    clear e1 e2 e3 e4 e5 e6 e7 e8
    go_enter Tryz.func9, Tryz.ntmps9
    go_wp2_with fail
    go_region
    go_wp2_with fail
    obtain ⟨w0, hw0, hb0, hX, hY, hs0⟩ := box_dxd w d ⟨⟨d.p.op, d.p.tb, ⟨#[]⟩, ⟨#[]⟩, d.p.key, 0, 0, false, 0, 0, ⟨#[]⟩, d.p.cols⟩, d.A, d.cap⟩
    dsimp only at hw0
    have Hw0 := Lib.hid hw0; clear hw0
    have HbW := Lib.hid hb0
    have HX := Lib.hid hX; clear hX
    have HY := Lib.hid hY; clear hY
    have Hs0 := Lib.hid hs0; clear hs0
    have HD0 := Lib.hid (HD.out.to hb0); clear hb0
    rw [Hw0.out]
    obtain ⟨x0, x1, x2, x3, x4, x5, x6, x7, x8, x9, x10, x11⟩ := HX.out.ddl
    obtain ⟨y0, y1, y2, y3, y4, y5, y6, y7, y8, y9, y10, y11⟩ := HY.out.ddl
    dsimp only at y0 y1 y2 y3 y4 y5 y6 y7 y8 y9 y10 y11
    go_loop [4] (fun i => ∃ k : Nat, k ≤ d.p.cols.length ∧ i = .int .i64 k ∧ Hid (∀ j x, d.p.cols[j]? = some x → j < k → (x.id == 0) = true)) (fun i => d.p.cols.length - (intOf i).toNat)
    case atStart => exact ⟨0, by omega, rfl, fun j v _ h => absurd h (by omega)⟩
    case round =>
      obtain ⟨k, hk, rfl, hall⟩ := hrel
      have hl := Hl.out
      by_cases hlt : k < d.p.cols.length
      · obtain ⟨c, hc⟩ : ∃ c, d.p.cols[k]? = some c := ⟨d.p.cols[k], by simp [hlt]⟩
        have Hc := Lib.hid hc
        obtain ⟨b, off, hAe, hbB, d0, d1, d2, d3, d4, d5, d6, d7⟩ := ColsAt.get HD0.out k c hc
        rw [hAe] at x11
        clear hc hAe
        cases hp : (c.id == 0)
        · have Hno : Hid (plainD d.p = false) := by
            show _ = _
            unfold plainD
            rw [if_pos E1.out, cols_stop Hc.out hp]
            simp
          go_wp2_with fail
          go_ret
          exact ⟨by rw [Hno.out]; rfl, HbW.out⟩
        · have Hall : Hid (∀ j x, d.p.cols[j]? = some x → j < k + 1 → (x.id == 0) = true) := fun j y hj hk => by
            by_cases e : j = k
            · subst e
              rw [Hc.out] at hj
              cases hj
              exact hp
            · exact hall.out j y hj (by omega)
          go_wp2_with fail
          go_round
          case rel => exact ⟨k + 1, by omega, by go_num, Hall.out⟩
          case measure => simp [intOf]; omega
      · have hyes : (d.p.cols.all fun c => c.id == 0) = true := all_at fun j x hj => hall.out j x hj (by have := (List.getElem?_eq_some_iff.1 hj).1; omega)
        have HS1 : Hid (Calls Tryz.prog 14 #[DV ⟨⟨d.p.op, d.p.tb, ⟨#[]⟩, ⟨#[]⟩, d.p.key, 0, 0, false, 0, 0, ⟨#[]⟩, d.p.cols⟩, d.A, d.cap⟩, DV d] w0 fun e w2 => e = .returned (.bool (plainD d.p)) ∧ Below w0.heap.size w0 w2) := by
          have h1 := HS.out ⟨⟨d.p.op, d.p.tb, ⟨#[]⟩, ⟨#[]⟩, d.p.key, 0, 0, false, 0, 0, ⟨#[]⟩, d.p.cols⟩, d.A, d.cap⟩ w0 HD0.out HD0.out hl
          rwa [kept_plain d ⟨⟨d.p.op, d.p.tb, ⟨#[]⟩, ⟨#[]⟩, d.p.key, 0, 0, false, 0, 0, ⟨#[]⟩, d.p.cols⟩, d.A, d.cap⟩ (by unfold keptD; simp only [E1.out, reduceIte]; rfl) (.inl E1.out) (fun _ => hyes)] at h1
        clear hyes HS
        obtain ⟨R, hR⟩ : ∃ R, plainD d.p = R := ⟨_, rfl⟩
        rw [hR] at HS1
        have HR := Lib.hid hR; clear hR
        go_wp2_with fail
        refine HS1.out.mono ?_
        rintro e w1 ⟨rfl, hb1⟩
        have Hb1 := Lib.hid (bthen HbW.out hb1); clear hb1
        go_wp2_with fail
        go_ret
        exact ⟨by rw [HR.out]; rfl, Hb1.out⟩
  have Hv : Hid (plainD d.p = false) := plainD_no d.p (by omega)
  generalize plainD d.p = R at Hv ⊢
  have q1 : (d.p.op == 1) = false := by rw [beq_eq_false_iff_ne]; omega
  have q2 : (d.p.op == 2) = false := by rw [beq_eq_false_iff_ne]; omega
  have q3 : (d.p.op == 3) = false := by rw [beq_eq_false_iff_ne]; omega
  have q4 : (d.p.op == 4) = false := by rw [beq_eq_false_iff_ne]; omega
  have q5 : (d.p.op == 5) = false := by rw [beq_eq_false_iff_ne]; omega
  have q6 : (d.p.op == 6) = false := by rw [beq_eq_false_iff_ne]; omega
  have q7 : (d.p.op == 7) = false := by rw [beq_eq_false_iff_ne]; omega
  have q8 : (d.p.op == 8) = false := by rw [beq_eq_false_iff_ne]; omega
  clear e1 e2 e3 e4 e5 e6 e7 e8
  go_enter Tryz.func9, Tryz.ntmps9
  go_wp2_with fail
  go_ret
  exact ⟨by rw [Hv.out]; rfl, by go_grown⟩
end Go.Proofs.YtlbdbaafmdikcaaGreatDoor

/-
  Contracts of the document's own Same and Sorted.
-/
namespace Go.Proofs.YtlbdbaafmdikcaaGreatDoor
open Go.RowKit

set_option maxRecDepth 100000 in
set_option maxHeartbeats 800000 in
theorem same4_any (A B : Option Addr) (c d : Nat) (l : List ByteArray) (w : World) (hA : StrsAt w w.heap.size A l) (hB : StrsAt w w.heap.size B l) (hl : l.length ≤ 1000000) :
    Calls Tryz.prog 10 #[.slice A l.length c, .slice B l.length d] w fun e w' => e = .returned (.bool true) ∧ Below w.heap.size w w' := by
  have HA := Lib.hid hA; clear hA
  have HB := Lib.hid hB; clear hB
  go_enter Tryz.func10, Tryz.ntmps10
  go_wp2_with fail
  go_loopw [5] (fun i wr => ∃ k : Nat, k ≤ l.length ∧ i = .int .i64 k ∧ Hid (Drew w wr)) (fun i _ => l.length - (intOf i).toNat)
  case atStart => exact ⟨0, by omega, rfl, Drew.refl _⟩
  case round =>
    obtain ⟨k, hk, rfl, hd⟩ := hrel
    by_cases hlt : k < l.length
    · obtain ⟨b1, o1, rfl, _, hc1⟩ := HA.out (by omega)
      obtain ⟨b2, o2, rfl, _, hc2⟩ := HB.out (by omega)
      have g1 : wr.cell? ⟨b1, o1 + k, none⟩ = some (.string l[k]) := (hd.out.cell _).trans (hc1 k hlt)
      have g2 : wr.cell? ⟨b2, o2 + k, none⟩ = some (.string l[k]) := (hd.out.cell _).trans (hc2 k hlt)
      have i1 : (k : Int) < (l.length : Int) := by omega
      clear hc1 hc2
      generalize l[k] = x at g1 g2
      go_wp2_with fail
      go_quiet (fail)
      go_wp2
      go_roundw
      case rel => exact ⟨k + 1, by omega, by go_num, hd.out.more _⟩
      case measure => simp [intOf]; omega
    · go_wp2
      go_ret
      exact ⟨rfl, hd.out.below _⟩

theorem rorder_drew (a b : ByteArray) (z : Int) (w : World) (ha : a.size ≤ 1000000) (hb : b.size ≤ 1000000) (hz : ordN (bs a) (bs b) = z) : Calls Tryz.prog 40 #[.string a, .string b] w fun e w' => e = .returned (.int .i64 z) ∧ ∃ m, w' = w.drewN m := by
  have := rorder_any a b w ha hb
  rw [hz] at this
  exact this
theorem beq_iff_B (a b : ByteArray) : (a.toList == b.toList) = true ↔ a = b := by
  rw [beq_iff_eq, ByteArray.toList_eq, ByteArray.toList_eq]
  exact ⟨fun h => bs_eq h, fun h => by rw [h]⟩

set_option maxRecDepth 100000 in
set_option maxHeartbeats 1600000 in
theorem rsorted_any (A : Option Addr) (c : Nat) (zs : List ByteArray) (w : World) (hA : StrsAt w w.heap.size A zs) (hl : zs.length ≤ 1000000) (hz : ∀ z ∈ zs, z.size ≤ 1000000) :
    Calls Tryz.prog 27 #[.slice A zs.length c] w fun e w' => SortedV zs w e w' := by
  have HA := Lib.hid hA; clear hA
  have HZ := Lib.hid hz; clear hz
  go_enter Tryz.func27, Tryz.ntmps27
  go_wp2_with fail
  go_loopw [3, 4] (fun v i wr => ∃ (k : Nat) (out : List ByteArray) (V : Option Addr) (cV : Nat), k ≤ zs.length ∧ i = .int .i64 k ∧ v = .slice V out.length cV ∧ out.length ≤ k ∧ Hid (OwnS wr w.heap.size (.slice V out.length cV) out) ∧ Hid (Srt (zs.take k) out) ∧ Hid (∀ y ∈ out, y.size ≤ 1000000) ∧ Below w.heap.size w wr) (fun _ i _ => zs.length - (intOf i).toNat)
  case atStart => exact ⟨0, [], none, 0, by omega, rfl, rfl, by simp, OwnS.nil _ _, srt_nil, (by show ∀ y ∈ [], _; simp), Below.refl _ _⟩
  case round =>
    obtain ⟨k, out, V, cV, hk, rfl, rfl, hol, ho, hS, hos, hb⟩ := hrel
    by_cases hlt : k < zs.length
    · obtain ⟨b, off, rfl, hbB, hc⟩ := HA.out (by omega)
      have hcx : Hid (wr.cell? ⟨b, off + k, none⟩ = some (.string zs[k])) := (hb.cell (p := ⟨b, off + k, none⟩) hbB).trans (hc k hlt)
      clear hc
      have hxs : zs[k].size ≤ 1000000 := HZ.out _ (List.getElem_mem hlt)
      have Hz : Hid (∀ y, y ∈ zs.take (k + 1) ↔ y ∈ zs.take k ∨ y = zs[k]) := fun y => by
        rw [List.take_succ_eq_append_getElem hlt, List.mem_append, List.mem_singleton]
      generalize zs[k] = x at hcx hxs Hz
      have hsz := hb.size
      have i0 : (k : Int) < (zs.length : Int) := by omega
      have HV : Hid (StrsAt wr wr.heap.size V out) := StrsAt.of_own1 ho.out
      go_wp2_with fail
      go_loopw [5, 6, 7] (fun a t j wr2 => ∃ (m at' : Nat) (th : Bool), m ≤ out.length ∧ at' ≤ m ∧ j = .int .i64 m ∧ a = .int .i64 at' ∧ t = .bool th ∧ Hid (Ins out x m at' th) ∧ Hid (Drew wr wr2)) (fun _ _ j _ => out.length - (intOf j).toNat)
      case atStart => exact ⟨0, 0, false, by omega, by omega, rfl, rfl, rfl, Ins.start _ _, Drew.refl _⟩
      case round =>
        obtain ⟨m, at', th, hm, ham, rfl, rfl, rfl, hI, hd⟩ := hrel
        by_cases hlt2 : m < out.length
        · obtain ⟨g, o, rfl, _, hcV⟩ := HV.out (by omega)
          have gm : wr.cell? ⟨g, o + m, none⟩ = some (.string out[m]) := (hd.out.cell _).trans (hcV m hlt2)
          have gx : wr.cell? ⟨b, off + k, none⟩ = some (.string x) := (hd.out.cell _).trans hcx.out
          have i1 : (m : Int) < (out.length : Int) := by omega
          have hys : out[m].size ≤ 1000000 := hos.out _ (List.getElem_mem hlt2)
          obtain ⟨z, hzz⟩ : ∃ z, ordN (bs out[m]) (bs x) = z := ⟨_, rfl⟩
          have HO := Lib.hid (fun w => rorder_drew out[m] x z w hys hxs hzz)
          have Hl : Hid (ltB out[m] x ↔ z < 0) := by show _ ↔ _; unfold ltB; rw [hzz]
          have He := Lib.hid (beq_iff_B out[m] x)
          have Hless := Lib.hid (fun h => Ins.less hS.out.1 hI.out hlt2 h)
          have Hnot := Lib.hid (fun h bb hbb => Ins.not hI.out hlt2 h bb hbb)
          clear hcV hzz
          generalize out[m] = y at gm hys HO Hl He Hless Hnot
          obtain ⟨q, hq⟩ : ∃ q, (y.toList == x.toList) = q := ⟨_, rfl⟩
          rw [hq] at He
          by_cases hzn : z < 0
          · have d1 : decide (z < 0) = true := by simp; omega
            have Hi := Lib.hid (Hless.out (Hl.out.2 hzn))
            have hqf : q = false := by
              cases q with
              | false => rfl
              | true =>
                have h1 := Hl.out.2 hzn
                rw [He.out.1 rfl] at h1
                exact absurd h1 (ltB_irrefl _)
            subst hqf
            go_wp2_with fail
            go_quiet (first | (go_at_call 40; refine Calls.quiet_of (HO.out _)))
            have hd2 := Lib.hid (hd.out.more nq)
            have gm2 : (wr.drewN nq).cell? ⟨g, o + m, none⟩ = some (.string y) := gm
            have gx2 : (wr.drewN nq).cell? ⟨b, off + k, none⟩ = some (.string x) := gx
            clear gm gx
            generalize wr.drewN nq = wq at hd2 gm2 gx2 ⊢
            cases th
            all_goals
              go_wp2_with fail
              go_quiet (fail)
              go_wp2_with fail
              go_roundw
              case rel => exact ⟨m + 1, m + 1, _, by omega, by omega, by go_num, by go_num, rfl, Hi.out, hd2.out.more _⟩
              case measure => simp [intOf]; omega
          · have d1 : decide (z < 0) = false := by simp; omega
            have Hnl : Hid (¬ ltB y x) := fun h => hzn (Hl.out.1 h)
            go_wp2_with fail
            go_quiet (first | (go_at_call 40; refine Calls.quiet_of (HO.out _)))
            have hd2 := Lib.hid (hd.out.more nq)
            have gm2 : (wr.drewN nq).cell? ⟨g, o + m, none⟩ = some (.string y) := gm
            have gx2 : (wr.drewN nq).cell? ⟨b, off + k, none⟩ = some (.string x) := gx
            clear gm gx
            generalize wr.drewN nq = wq at hd2 gm2 gx2 ⊢
            cases th
            · have Hi := Lib.hid (Hnot.out Hnl.out q (by rw [He.out]; simp))
              go_wp2_with fail
              go_quiet (fail)
              go_wp2_with fail
              go_roundw
              case rel => exact ⟨m + 1, at', q, by omega, by omega, by go_num, rfl, rfl, Hi.out, hd2.out.more _⟩
              case measure => simp [intOf]; omega
            · have Hi := Lib.hid (Hnot.out Hnl.out true (by simp))
              go_wp2_with fail
              go_quiet (fail)
              go_wp2_with fail
              go_roundw
              case rel => exact ⟨m + 1, at', true, by omega, by omega, by go_num, rfl, rfl, Hi.out, hd2.out.more _⟩
              case measure => simp [intOf]; omega
        · have hmo : m = out.length := by omega
          subst hmo
          have ho2 := ho.out.below (hd.out.below _)
          have hb2 := hb.trans (hd.out.below _)
          have hsz2 := hb2.size
          have gx : wr.cell? ⟨b, off + k, none⟩ = some (.string x) := (hd.out.cell _).trans hcx.out
          cases th
          · have Hn := Lib.hid (Ins.put rfl hI.out hS.out _ Hz.out)
            obtain ⟨L, HL⟩ : ∃ L, Hid (L = out.take at' ++ [x] ++ out.drop at') := ⟨_, rfl⟩
            rw [← HL.out] at Hn
            have hLl : L.length ≤ k + 1 := by
              rw [HL.out]
              simp only [List.length_append, List.length_take, List.length_drop, List.length_singleton]
              omega
            have HLs : Hid (∀ y ∈ L, y.size ≤ 1000000) := fun y hy => by
              rw [HL.out] at hy
              simp only [List.mem_append, List.mem_singleton] at hy
              rcases hy with (hy | hy) | hy
              · exact hos.out y (List.mem_of_mem_take hy)
              · rw [hy]; exact hxs
              · exact hos.out y (List.mem_of_mem_drop hy)
            have Ho2 := Lib.hid ho2; clear ho2
            have Hb2 := Lib.hid hb2; clear hb2
            rcases Ho2.out.form with ⟨hV, hnil⟩ | ⟨g, cap, hV, hg1, hg2, hcap, hcells⟩
            · subst hnil
              cases hV
              obtain rfl : at' = 0 := by simp at ham; exact ham
              rw [show ([] : List ByteArray).take 0 ++ [x] ++ ([] : List ByteArray).drop 0 = [] ++ [x] ++ [] from rfl] at HL
              have hnil : ∀ A, Hid (StrsAt wr wr.heap.size A []) := fun A h => absurd h (by simp)
              have hbs : b < wr.heap.size := by omega
              go_wp2_with fail
              go_region_law (first
                | (refine step_append_strs rfl (.tmp 46) (.tmp 49) rfl wr.heap.size (.slice (some ⟨wr.heap.size, 0, none⟩) 0 0) [] none 0 0 [] (own0_a wr) ?_ ?_ ?_ ?_ ?_ ?_ ?_ ?_
                   · simp [Act.eval]
                   · simp [Act.eval]
                   · simp <;> omega
                   · intro h; first | rfl | cases h
                   · exact ((hnil _).out).to (((Below.refl wr.heap.size wr).alloc (Nat.le_refl _) (.cells #[] 9)).drew)
                   · simp <;> omega
                   · first | (simp; done) | (simp; omega)
                   intro v1 w1 ho1 hg1
                   have hB1 := below_grown (((Below.refl wr.heap.size wr).alloc (Nat.le_refl _) (.cells #[] 9)).drew) (own0_a wr) hg1 (Nat.le_refl _) (by first | (simp; done) | (simp; omega))
                   have gx1 : w1.cell? ⟨b, off + k, none⟩ = some (.string x) := (hB1.cell (p := ⟨b, off + k, none⟩) hbs).trans gx)
                | (refine step_append_strs rfl (.tmp 46) (.tmp 49) rfl wr.heap.size (.slice (some ⟨wr.heap.size, 0, none⟩) 0 0) [] none 0 0 [] (own0_d wr (.cells #[.string x] 9)) ?_ ?_ ?_ ?_ ?_ ?_ ?_ ?_
                   · simp [Act.eval]
                   · simp [Act.eval]
                   · simp <;> omega
                   · intro h; first | rfl | cases h
                   · exact ((hnil _).out).to ((((Below.refl wr.heap.size wr).alloc (Nat.le_refl _) (.cells #[] 9)).alloc (by simp) (.cells #[.string x] 9)).drew)
                   · simp <;> omega
                   · first | (simp; done) | (simp; omega)
                   intro v1 w1 ho1 hg1
                   have hB1 := below_grown ((((Below.refl wr.heap.size wr).alloc (Nat.le_refl _) (.cells #[] 9)).alloc (by simp) (.cells #[.string x] 9)).drew) (own0_d wr (.cells #[.string x] 9)) hg1 (Nat.le_refl _) (by first | (simp; done) | (simp; omega))
                   have gx1 : w1.cell? ⟨b, off + k, none⟩ = some (.string x) := (hB1.cell (p := ⟨b, off + k, none⟩) hbs).trans gx
                   have gl : w1.cell? ⟨wr.heap.size + 1, 0, none⟩ = some (.string x) := (cell_grownBy hg1 ⟨wr.heap.size + 1, 0, none⟩ (by first | (simp; done) | (simp; omega)) (by simp [Value.ownBlock])).trans (by simp))
                | (refine step_append_strs rfl (.tmp 46) (.tmp 49) rfl wr.heap.size (.slice (some ⟨wr.heap.size + 1, 0, none⟩) 0 0) [] none 0 0 [] (own0_f wr (.cells #[.string x] 9)) ?_ ?_ ?_ ?_ ?_ ?_ ?_ ?_
                   · simp [Act.eval]
                   · simp [Act.eval]
                   · simp <;> omega
                   · intro h; first | rfl | cases h
                   · exact ((hnil _).out).to ((((Below.refl wr.heap.size wr).alloc (Nat.le_refl _) (.cells #[.string x] 9)).alloc (by simp) (.cells #[] 9)).drew)
                   · simp <;> omega
                   · first | (simp; done) | (simp; omega)
                   intro v1 w1 ho1 hg1
                   have hB1 := below_grown ((((Below.refl wr.heap.size wr).alloc (Nat.le_refl _) (.cells #[.string x] 9)).alloc (by simp) (.cells #[] 9)).drew) (own0_f wr (.cells #[.string x] 9)) hg1 (Nat.le_refl _) (by first | (simp; done) | (simp; omega))
                   have gx1 : w1.cell? ⟨b, off + k, none⟩ = some (.string x) := (hB1.cell (p := ⟨b, off + k, none⟩) hbs).trans gx
                   have gl : w1.cell? ⟨wr.heap.size, 0, none⟩ = some (.string x) := (cell_grownBy hg1 ⟨wr.heap.size, 0, none⟩ (by first | (simp; done) | (simp; omega)) (by simp [Value.ownBlock])).trans (by simp))
                | (refine step_append_strs rfl (.tmp 50) (.tmp 55) rfl wr.heap.size v1 [] (some ⟨w1.heap.size, 0, none⟩) 1 1 [x] (ho1.alloc (.cells #[.string x] 9)) ?_ ?_ ?_ ?_ ?_ ?_ ?_ ?_
                   · simp [Act.eval]
                   · simp [Act.eval]
                   · rfl
                   · intro h; cases h
                   · exact strs_one (by simp)
                   · simp <;> omega
                   · have := hB1.size; simp <;> omega
                   intro v2 w2 ho2 hg2
                   have hB2 := below_grown (hB1.alloc hB1.size (.cells #[.string x] 9)) (ho1.alloc (.cells #[.string x] 9)) hg2 (Nat.le_refl _) (by have := hB1.size; simp <;> omega))
                | (refine step_append_strs rfl (.tmp 50) (.tmp 55) rfl wr.heap.size v1 [] (some ⟨wr.heap.size + 1, 0, none⟩) 1 1 [x] (ho1) ?_ ?_ ?_ ?_ ?_ ?_ ?_ ?_
                   · simp [Act.eval]
                   · simp [Act.eval]
                   · rfl
                   · intro h; cases h
                   · exact strs_one gl
                   · simp <;> omega
                   · have := hB1.size; simp <;> omega
                   intro v2 w2 ho2 hg2
                   have hB2 := below_grown hB1 (ho1) hg2 (Nat.le_refl _) (by have := hB1.size; simp <;> omega))
                | (refine step_append_strs rfl (.tmp 50) (.tmp 55) rfl wr.heap.size v1 [] (some ⟨wr.heap.size, 0, none⟩) 1 1 [x] (ho1) ?_ ?_ ?_ ?_ ?_ ?_ ?_ ?_
                   · simp [Act.eval]
                   · simp [Act.eval]
                   · rfl
                   · intro h; cases h
                   · exact strs_one gl
                   · simp <;> omega
                   · have := hB1.size; simp <;> omega
                   intro v2 w2 ho2 hg2
                   have hB2 := below_grown hB1 (ho1) hg2 (Nat.le_refl _) (by have := hB1.size; simp <;> omega))
                | (refine step_append_strs rfl (.tmp 56) (.tmp 59) rfl wr.heap.size v2 ([] ++ [x]) none 0 0 [] ho2 ?_ ?_ ?_ ?_ ?_ ?_ ?_ ?_
                   · simp [Act.eval]
                   · simp [Act.eval]
                   · simp <;> omega
                   · intro h; first | rfl | cases h
                   · exact ((hnil _).out).to hB2
                   · simp <;> omega
                   · exact hB2.size
                   intro v3 w3 ho3 hg3
                   have hB3 := below_grown hB2 ho2 hg3 (Nat.le_refl _) hB2.size)
                | fail)
              all_goals
                rw [← HL.out] at ho3
                have Ho3 := Lib.hid ho3; clear ho3
                obtain ⟨A3, c3, hv3, _⟩ := StrsAt.of_own Ho3.out
                subst hv3
                clear gx gx1 hg1 hg2 hg3 ho1 ho2
                go_wp2_with fail
                go_roundw
                case rel => exact ⟨k + 1, L, A3, c3, by omega, by go_num, rfl, hLl, Ho3.out.mono hsz2, Hn.out, HLs.out, Hb2.out.trans (hB3.mono hsz2)⟩
                case measure => simp [intOf]; omega
            · cases hV
              have HV2 : Hid (StrsAt wr wr.heap.size (some ⟨g, 0, none⟩) out) := StrsAt.of_own1 Ho2.out
              clear hcells
              have i2 : (at' : Int) ≤ (cV : Int) := by omega
              have i3 : (at' : Int) ≤ (out.length : Int) := by omega
              have hbs : b < wr.heap.size := by omega
              have HD : Hid (StrsAt wr wr.heap.size (some ⟨g, at', none⟩) (out.drop at')) := by
                have := HV2.out.drop at'
                rw [Nat.zero_add] at this
                exact this
              by_cases hat : at' < out.length
              · have i4 : ¬ cV = at' := by omega
                go_wp2_with fail
                go_region_law (first
                  | (refine step_append_strs rfl (.tmp 46) (.tmp 49) rfl wr.heap.size (.slice (some ⟨wr.heap.size, 0, none⟩) 0 0) [] (some ⟨g, 0, none⟩) at' cV (out.take at') (own0_a wr) ?_ ?_ ?_ ?_ ?_ ?_ ?_ ?_
                     · simp [Act.eval]
                     · simp [Act.eval]
                     · simp <;> omega
                     · intro h; first | rfl | cases h
                     · exact (HV2.out.take at').to (((Below.refl wr.heap.size wr).alloc (Nat.le_refl _) (.cells #[] 9)).drew)
                     · simp <;> omega
                     · first | (simp; done) | (simp; omega)
                     intro v1 w1 ho1 hg1
                     have hB1 := below_grown (((Below.refl wr.heap.size wr).alloc (Nat.le_refl _) (.cells #[] 9)).drew) (own0_a wr) hg1 (Nat.le_refl _) (by first | (simp; done) | (simp; omega))
                     have gx1 : w1.cell? ⟨b, off + k, none⟩ = some (.string x) := (hB1.cell (p := ⟨b, off + k, none⟩) hbs).trans gx)
                  | (refine step_append_strs rfl (.tmp 46) (.tmp 49) rfl wr.heap.size (.slice (some ⟨wr.heap.size, 0, none⟩) 0 0) [] (some ⟨g, 0, none⟩) at' cV (out.take at') (own0_d wr (.cells #[.string x] 9)) ?_ ?_ ?_ ?_ ?_ ?_ ?_ ?_
                     · simp [Act.eval]
                     · simp [Act.eval]
                     · simp <;> omega
                     · intro h; first | rfl | cases h
                     · exact (HV2.out.take at').to ((((Below.refl wr.heap.size wr).alloc (Nat.le_refl _) (.cells #[] 9)).alloc (by simp) (.cells #[.string x] 9)).drew)
                     · simp <;> omega
                     · first | (simp; done) | (simp; omega)
                     intro v1 w1 ho1 hg1
                     have hB1 := below_grown ((((Below.refl wr.heap.size wr).alloc (Nat.le_refl _) (.cells #[] 9)).alloc (by simp) (.cells #[.string x] 9)).drew) (own0_d wr (.cells #[.string x] 9)) hg1 (Nat.le_refl _) (by first | (simp; done) | (simp; omega))
                     have gx1 : w1.cell? ⟨b, off + k, none⟩ = some (.string x) := (hB1.cell (p := ⟨b, off + k, none⟩) hbs).trans gx
                     have gl : w1.cell? ⟨wr.heap.size + 1, 0, none⟩ = some (.string x) := (cell_grownBy hg1 ⟨wr.heap.size + 1, 0, none⟩ (by first | (simp; done) | (simp; omega)) (by simp [Value.ownBlock])).trans (by simp))
                  | (refine step_append_strs rfl (.tmp 46) (.tmp 49) rfl wr.heap.size (.slice (some ⟨wr.heap.size + 1, 0, none⟩) 0 0) [] (some ⟨g, 0, none⟩) at' cV (out.take at') (own0_f wr (.cells #[.string x] 9)) ?_ ?_ ?_ ?_ ?_ ?_ ?_ ?_
                     · simp [Act.eval]
                     · simp [Act.eval]
                     · simp <;> omega
                     · intro h; first | rfl | cases h
                     · exact (HV2.out.take at').to ((((Below.refl wr.heap.size wr).alloc (Nat.le_refl _) (.cells #[.string x] 9)).alloc (by simp) (.cells #[] 9)).drew)
                     · simp <;> omega
                     · first | (simp; done) | (simp; omega)
                     intro v1 w1 ho1 hg1
                     have hB1 := below_grown ((((Below.refl wr.heap.size wr).alloc (Nat.le_refl _) (.cells #[.string x] 9)).alloc (by simp) (.cells #[] 9)).drew) (own0_f wr (.cells #[.string x] 9)) hg1 (Nat.le_refl _) (by first | (simp; done) | (simp; omega))
                     have gx1 : w1.cell? ⟨b, off + k, none⟩ = some (.string x) := (hB1.cell (p := ⟨b, off + k, none⟩) hbs).trans gx
                     have gl : w1.cell? ⟨wr.heap.size, 0, none⟩ = some (.string x) := (cell_grownBy hg1 ⟨wr.heap.size, 0, none⟩ (by first | (simp; done) | (simp; omega)) (by simp [Value.ownBlock])).trans (by simp))
                  | (refine step_append_strs rfl (.tmp 50) (.tmp 55) rfl wr.heap.size v1 (out.take at') (some ⟨w1.heap.size, 0, none⟩) 1 1 [x] (ho1.alloc (.cells #[.string x] 9)) ?_ ?_ ?_ ?_ ?_ ?_ ?_ ?_
                     · simp [Act.eval]
                     · simp [Act.eval]
                     · rfl
                     · intro h; cases h
                     · exact strs_one (by simp)
                     · simp <;> omega
                     · have := hB1.size; simp <;> omega
                     intro v2 w2 ho2 hg2
                     have hB2 := below_grown (hB1.alloc hB1.size (.cells #[.string x] 9)) (ho1.alloc (.cells #[.string x] 9)) hg2 (Nat.le_refl _) (by have := hB1.size; simp <;> omega))
                  | (refine step_append_strs rfl (.tmp 50) (.tmp 55) rfl wr.heap.size v1 (out.take at') (some ⟨wr.heap.size + 1, 0, none⟩) 1 1 [x] (ho1) ?_ ?_ ?_ ?_ ?_ ?_ ?_ ?_
                     · simp [Act.eval]
                     · simp [Act.eval]
                     · rfl
                     · intro h; cases h
                     · exact strs_one gl
                     · simp <;> omega
                     · have := hB1.size; simp <;> omega
                     intro v2 w2 ho2 hg2
                     have hB2 := below_grown hB1 (ho1) hg2 (Nat.le_refl _) (by have := hB1.size; simp <;> omega))
                  | (refine step_append_strs rfl (.tmp 50) (.tmp 55) rfl wr.heap.size v1 (out.take at') (some ⟨wr.heap.size, 0, none⟩) 1 1 [x] (ho1) ?_ ?_ ?_ ?_ ?_ ?_ ?_ ?_
                     · simp [Act.eval]
                     · simp [Act.eval]
                     · rfl
                     · intro h; cases h
                     · exact strs_one gl
                     · simp <;> omega
                     · have := hB1.size; simp <;> omega
                     intro v2 w2 ho2 hg2
                     have hB2 := below_grown hB1 (ho1) hg2 (Nat.le_refl _) (by have := hB1.size; simp <;> omega))
                  | (refine step_append_strs rfl (.tmp 56) (.tmp 59) rfl wr.heap.size v2 ((out.take at') ++ [x]) (some ⟨g, at', none⟩) (out.length - at') (cV - at') (out.drop at') ho2 ?_ ?_ ?_ ?_ ?_ ?_ ?_ ?_
                     · simp [Act.eval]
                     · simp [Act.eval]
                     · simp <;> omega
                     · intro h; first | rfl | cases h
                     · exact HD.out.to hB2
                     · simp <;> omega
                     · exact hB2.size
                     intro v3 w3 ho3 hg3
                     have hB3 := below_grown hB2 ho2 hg3 (Nat.le_refl _) hB2.size)
                  | fail)
                all_goals
                  rw [← HL.out] at ho3
                  have Ho3 := Lib.hid ho3; clear ho3
                  obtain ⟨A3, c3, hv3, _⟩ := StrsAt.of_own Ho3.out
                  subst hv3
                  clear gx gx1 hg1 hg2 hg3 ho1 ho2
                  go_wp2_with fail
                  go_roundw
                  case rel => exact ⟨k + 1, L, A3, c3, by omega, by go_num, rfl, hLl, Ho3.out.mono hsz2, Hn.out, HLs.out, Hb2.out.trans (hB3.mono hsz2)⟩
                  case measure => simp [intOf]; omega
              · obtain rfl : at' = out.length := by omega
                rw [List.take_length, List.drop_length] at HL
                have hnil : ∀ A, Hid (StrsAt wr wr.heap.size A []) := fun A h => absurd h (by simp)
                clear HD
                by_cases hcv : cV = out.length
                · subst hcv
                  go_wp2_with fail
                  go_region_law (first
                    | (refine step_append_strs rfl (.tmp 46) (.tmp 49) rfl wr.heap.size (.slice (some ⟨wr.heap.size, 0, none⟩) 0 0) [] (some ⟨g, 0, none⟩) out.length out.length out (own0_a wr) ?_ ?_ ?_ ?_ ?_ ?_ ?_ ?_
                       · simp [Act.eval]
                       · simp [Act.eval]
                       · simp <;> omega
                       · intro h; first | rfl | cases h
                       · exact (HV2.out).to (((Below.refl wr.heap.size wr).alloc (Nat.le_refl _) (.cells #[] 9)).drew)
                       · simp <;> omega
                       · first | (simp; done) | (simp; omega)
                       intro v1 w1 ho1 hg1
                       have hB1 := below_grown (((Below.refl wr.heap.size wr).alloc (Nat.le_refl _) (.cells #[] 9)).drew) (own0_a wr) hg1 (Nat.le_refl _) (by first | (simp; done) | (simp; omega))
                       have gx1 : w1.cell? ⟨b, off + k, none⟩ = some (.string x) := (hB1.cell (p := ⟨b, off + k, none⟩) hbs).trans gx)
                    | (refine step_append_strs rfl (.tmp 46) (.tmp 49) rfl wr.heap.size (.slice (some ⟨wr.heap.size, 0, none⟩) 0 0) [] (some ⟨g, 0, none⟩) out.length out.length out (own0_d wr (.cells #[.string x] 9)) ?_ ?_ ?_ ?_ ?_ ?_ ?_ ?_
                       · simp [Act.eval]
                       · simp [Act.eval]
                       · simp <;> omega
                       · intro h; first | rfl | cases h
                       · exact (HV2.out).to ((((Below.refl wr.heap.size wr).alloc (Nat.le_refl _) (.cells #[] 9)).alloc (by simp) (.cells #[.string x] 9)).drew)
                       · simp <;> omega
                       · first | (simp; done) | (simp; omega)
                       intro v1 w1 ho1 hg1
                       have hB1 := below_grown ((((Below.refl wr.heap.size wr).alloc (Nat.le_refl _) (.cells #[] 9)).alloc (by simp) (.cells #[.string x] 9)).drew) (own0_d wr (.cells #[.string x] 9)) hg1 (Nat.le_refl _) (by first | (simp; done) | (simp; omega))
                       have gx1 : w1.cell? ⟨b, off + k, none⟩ = some (.string x) := (hB1.cell (p := ⟨b, off + k, none⟩) hbs).trans gx
                       have gl : w1.cell? ⟨wr.heap.size + 1, 0, none⟩ = some (.string x) := (cell_grownBy hg1 ⟨wr.heap.size + 1, 0, none⟩ (by first | (simp; done) | (simp; omega)) (by simp [Value.ownBlock])).trans (by simp))
                    | (refine step_append_strs rfl (.tmp 46) (.tmp 49) rfl wr.heap.size (.slice (some ⟨wr.heap.size + 1, 0, none⟩) 0 0) [] (some ⟨g, 0, none⟩) out.length out.length out (own0_f wr (.cells #[.string x] 9)) ?_ ?_ ?_ ?_ ?_ ?_ ?_ ?_
                       · simp [Act.eval]
                       · simp [Act.eval]
                       · simp <;> omega
                       · intro h; first | rfl | cases h
                       · exact (HV2.out).to ((((Below.refl wr.heap.size wr).alloc (Nat.le_refl _) (.cells #[.string x] 9)).alloc (by simp) (.cells #[] 9)).drew)
                       · simp <;> omega
                       · first | (simp; done) | (simp; omega)
                       intro v1 w1 ho1 hg1
                       have hB1 := below_grown ((((Below.refl wr.heap.size wr).alloc (Nat.le_refl _) (.cells #[.string x] 9)).alloc (by simp) (.cells #[] 9)).drew) (own0_f wr (.cells #[.string x] 9)) hg1 (Nat.le_refl _) (by first | (simp; done) | (simp; omega))
                       have gx1 : w1.cell? ⟨b, off + k, none⟩ = some (.string x) := (hB1.cell (p := ⟨b, off + k, none⟩) hbs).trans gx
                       have gl : w1.cell? ⟨wr.heap.size, 0, none⟩ = some (.string x) := (cell_grownBy hg1 ⟨wr.heap.size, 0, none⟩ (by first | (simp; done) | (simp; omega)) (by simp [Value.ownBlock])).trans (by simp))
                    | (refine step_append_strs rfl (.tmp 50) (.tmp 55) rfl wr.heap.size v1 out (some ⟨w1.heap.size, 0, none⟩) 1 1 [x] (ho1.alloc (.cells #[.string x] 9)) ?_ ?_ ?_ ?_ ?_ ?_ ?_ ?_
                       · simp [Act.eval]
                       · simp [Act.eval]
                       · rfl
                       · intro h; cases h
                       · exact strs_one (by simp)
                       · simp <;> omega
                       · have := hB1.size; simp <;> omega
                       intro v2 w2 ho2 hg2
                       have hB2 := below_grown (hB1.alloc hB1.size (.cells #[.string x] 9)) (ho1.alloc (.cells #[.string x] 9)) hg2 (Nat.le_refl _) (by have := hB1.size; simp <;> omega))
                    | (refine step_append_strs rfl (.tmp 50) (.tmp 55) rfl wr.heap.size v1 out (some ⟨wr.heap.size + 1, 0, none⟩) 1 1 [x] (ho1) ?_ ?_ ?_ ?_ ?_ ?_ ?_ ?_
                       · simp [Act.eval]
                       · simp [Act.eval]
                       · rfl
                       · intro h; cases h
                       · exact strs_one gl
                       · simp <;> omega
                       · have := hB1.size; simp <;> omega
                       intro v2 w2 ho2 hg2
                       have hB2 := below_grown hB1 (ho1) hg2 (Nat.le_refl _) (by have := hB1.size; simp <;> omega))
                    | (refine step_append_strs rfl (.tmp 50) (.tmp 55) rfl wr.heap.size v1 out (some ⟨wr.heap.size, 0, none⟩) 1 1 [x] (ho1) ?_ ?_ ?_ ?_ ?_ ?_ ?_ ?_
                       · simp [Act.eval]
                       · simp [Act.eval]
                       · rfl
                       · intro h; cases h
                       · exact strs_one gl
                       · simp <;> omega
                       · have := hB1.size; simp <;> omega
                       intro v2 w2 ho2 hg2
                       have hB2 := below_grown hB1 (ho1) hg2 (Nat.le_refl _) (by have := hB1.size; simp <;> omega))
                    | (refine step_append_strs rfl (.tmp 56) (.tmp 59) rfl wr.heap.size v2 (out ++ [x]) (some ⟨g, 0, none⟩) 0 0 [] ho2 ?_ ?_ ?_ ?_ ?_ ?_ ?_ ?_
                       · simp [Act.eval]
                       · simp [Act.eval]
                       · simp <;> omega
                       · intro h; first | rfl | cases h
                       · exact ((hnil _).out).to hB2
                       · simp <;> omega
                       · exact hB2.size
                       intro v3 w3 ho3 hg3
                       have hB3 := below_grown hB2 ho2 hg3 (Nat.le_refl _) hB2.size)
                    | fail)
                  all_goals
                    rw [← HL.out] at ho3
                    have Ho3 := Lib.hid ho3; clear ho3
                    obtain ⟨A3, c3, hv3, _⟩ := StrsAt.of_own Ho3.out
                    subst hv3
                    clear gx gx1 hg1 hg2 hg3 ho1 ho2
                    go_wp2_with fail
                    go_roundw
                    case rel => exact ⟨k + 1, L, A3, c3, by omega, by go_num, rfl, hLl, Ho3.out.mono hsz2, Hn.out, HLs.out, Hb2.out.trans (hB3.mono hsz2)⟩
                    case measure => simp [intOf]; omega
                · go_wp2_with fail
                  go_region_law (first
                    | (refine step_append_strs rfl (.tmp 46) (.tmp 49) rfl wr.heap.size (.slice (some ⟨wr.heap.size, 0, none⟩) 0 0) [] (some ⟨g, 0, none⟩) out.length cV out (own0_a wr) ?_ ?_ ?_ ?_ ?_ ?_ ?_ ?_
                       · simp [Act.eval]
                       · simp [Act.eval]
                       · simp <;> omega
                       · intro h; first | rfl | cases h
                       · exact (HV2.out).to (((Below.refl wr.heap.size wr).alloc (Nat.le_refl _) (.cells #[] 9)).drew)
                       · simp <;> omega
                       · first | (simp; done) | (simp; omega)
                       intro v1 w1 ho1 hg1
                       have hB1 := below_grown (((Below.refl wr.heap.size wr).alloc (Nat.le_refl _) (.cells #[] 9)).drew) (own0_a wr) hg1 (Nat.le_refl _) (by first | (simp; done) | (simp; omega))
                       have gx1 : w1.cell? ⟨b, off + k, none⟩ = some (.string x) := (hB1.cell (p := ⟨b, off + k, none⟩) hbs).trans gx)
                    | (refine step_append_strs rfl (.tmp 46) (.tmp 49) rfl wr.heap.size (.slice (some ⟨wr.heap.size, 0, none⟩) 0 0) [] (some ⟨g, 0, none⟩) out.length cV out (own0_d wr (.cells #[.string x] 9)) ?_ ?_ ?_ ?_ ?_ ?_ ?_ ?_
                       · simp [Act.eval]
                       · simp [Act.eval]
                       · simp <;> omega
                       · intro h; first | rfl | cases h
                       · exact (HV2.out).to ((((Below.refl wr.heap.size wr).alloc (Nat.le_refl _) (.cells #[] 9)).alloc (by simp) (.cells #[.string x] 9)).drew)
                       · simp <;> omega
                       · first | (simp; done) | (simp; omega)
                       intro v1 w1 ho1 hg1
                       have hB1 := below_grown ((((Below.refl wr.heap.size wr).alloc (Nat.le_refl _) (.cells #[] 9)).alloc (by simp) (.cells #[.string x] 9)).drew) (own0_d wr (.cells #[.string x] 9)) hg1 (Nat.le_refl _) (by first | (simp; done) | (simp; omega))
                       have gx1 : w1.cell? ⟨b, off + k, none⟩ = some (.string x) := (hB1.cell (p := ⟨b, off + k, none⟩) hbs).trans gx
                       have gl : w1.cell? ⟨wr.heap.size + 1, 0, none⟩ = some (.string x) := (cell_grownBy hg1 ⟨wr.heap.size + 1, 0, none⟩ (by first | (simp; done) | (simp; omega)) (by simp [Value.ownBlock])).trans (by simp))
                    | (refine step_append_strs rfl (.tmp 46) (.tmp 49) rfl wr.heap.size (.slice (some ⟨wr.heap.size + 1, 0, none⟩) 0 0) [] (some ⟨g, 0, none⟩) out.length cV out (own0_f wr (.cells #[.string x] 9)) ?_ ?_ ?_ ?_ ?_ ?_ ?_ ?_
                       · simp [Act.eval]
                       · simp [Act.eval]
                       · simp <;> omega
                       · intro h; first | rfl | cases h
                       · exact (HV2.out).to ((((Below.refl wr.heap.size wr).alloc (Nat.le_refl _) (.cells #[.string x] 9)).alloc (by simp) (.cells #[] 9)).drew)
                       · simp <;> omega
                       · first | (simp; done) | (simp; omega)
                       intro v1 w1 ho1 hg1
                       have hB1 := below_grown ((((Below.refl wr.heap.size wr).alloc (Nat.le_refl _) (.cells #[.string x] 9)).alloc (by simp) (.cells #[] 9)).drew) (own0_f wr (.cells #[.string x] 9)) hg1 (Nat.le_refl _) (by first | (simp; done) | (simp; omega))
                       have gx1 : w1.cell? ⟨b, off + k, none⟩ = some (.string x) := (hB1.cell (p := ⟨b, off + k, none⟩) hbs).trans gx
                       have gl : w1.cell? ⟨wr.heap.size, 0, none⟩ = some (.string x) := (cell_grownBy hg1 ⟨wr.heap.size, 0, none⟩ (by first | (simp; done) | (simp; omega)) (by simp [Value.ownBlock])).trans (by simp))
                    | (refine step_append_strs rfl (.tmp 50) (.tmp 55) rfl wr.heap.size v1 out (some ⟨w1.heap.size, 0, none⟩) 1 1 [x] (ho1.alloc (.cells #[.string x] 9)) ?_ ?_ ?_ ?_ ?_ ?_ ?_ ?_
                       · simp [Act.eval]
                       · simp [Act.eval]
                       · rfl
                       · intro h; cases h
                       · exact strs_one (by simp)
                       · simp <;> omega
                       · have := hB1.size; simp <;> omega
                       intro v2 w2 ho2 hg2
                       have hB2 := below_grown (hB1.alloc hB1.size (.cells #[.string x] 9)) (ho1.alloc (.cells #[.string x] 9)) hg2 (Nat.le_refl _) (by have := hB1.size; simp <;> omega))
                    | (refine step_append_strs rfl (.tmp 50) (.tmp 55) rfl wr.heap.size v1 out (some ⟨wr.heap.size + 1, 0, none⟩) 1 1 [x] (ho1) ?_ ?_ ?_ ?_ ?_ ?_ ?_ ?_
                       · simp [Act.eval]
                       · simp [Act.eval]
                       · rfl
                       · intro h; cases h
                       · exact strs_one gl
                       · simp <;> omega
                       · have := hB1.size; simp <;> omega
                       intro v2 w2 ho2 hg2
                       have hB2 := below_grown hB1 (ho1) hg2 (Nat.le_refl _) (by have := hB1.size; simp <;> omega))
                    | (refine step_append_strs rfl (.tmp 50) (.tmp 55) rfl wr.heap.size v1 out (some ⟨wr.heap.size, 0, none⟩) 1 1 [x] (ho1) ?_ ?_ ?_ ?_ ?_ ?_ ?_ ?_
                       · simp [Act.eval]
                       · simp [Act.eval]
                       · rfl
                       · intro h; cases h
                       · exact strs_one gl
                       · simp <;> omega
                       · have := hB1.size; simp <;> omega
                       intro v2 w2 ho2 hg2
                       have hB2 := below_grown hB1 (ho1) hg2 (Nat.le_refl _) (by have := hB1.size; simp <;> omega))
                    | (refine step_append_strs rfl (.tmp 56) (.tmp 59) rfl wr.heap.size v2 (out ++ [x]) (some ⟨g, out.length, none⟩) 0 (cV - out.length) [] ho2 ?_ ?_ ?_ ?_ ?_ ?_ ?_ ?_
                       · simp [Act.eval]
                       · simp [Act.eval]
                       · simp <;> omega
                       · intro h; first | rfl | cases h
                       · exact ((hnil _).out).to hB2
                       · simp <;> omega
                       · exact hB2.size
                       intro v3 w3 ho3 hg3
                       have hB3 := below_grown hB2 ho2 hg3 (Nat.le_refl _) hB2.size)
                    | fail)
                  all_goals
                    rw [← HL.out] at ho3
                    have Ho3 := Lib.hid ho3; clear ho3
                    obtain ⟨A3, c3, hv3, _⟩ := StrsAt.of_own Ho3.out
                    subst hv3
                    clear gx gx1 hg1 hg2 hg3 ho1 ho2
                    go_wp2_with fail
                    go_roundw
                    case rel => exact ⟨k + 1, L, A3, c3, by omega, by go_num, rfl, hLl, Ho3.out.mono hsz2, Hn.out, HLs.out, Hb2.out.trans (hB3.mono hsz2)⟩
                    case measure => simp [intOf]; omega
          · have Hn := Lib.hid (Ins.there hI.out hS.out _ Hz.out)
            go_wp2_with fail
            go_roundw
            case rel => exact ⟨k + 1, out, V, cV, by omega, by go_num, rfl, by omega, ho2, Hn.out, hos.out, hb2⟩
            case measure => simp [intOf]; omega
    · have Hf : Hid (Srt zs out) := by
        have := hS.out
        rw [List.take_of_length_le (by omega)] at this
        exact this
      have HV : Hid (StrsAt wr wr.heap.size V out) := StrsAt.of_own1 ho.out
      go_wp2
      go_ret
      exact ⟨V, cV, out, rfl, by omega, Hf.out, HV.out, hb⟩
end Go.Proofs.YtlbdbaafmdikcaaGreatDoor
