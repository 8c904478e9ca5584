/-
  Texts that the proof needs, one behind the other: SchAllC, SchDistC, SchTabC, SchTab2C, DdlApplyC, DdlFewC, SchSameC, SchSame2C, DdlSameC.
-/
import Derived.Test.YthmjgaekcghonaaGreatDoorPart1
import Derived.Test.YthmjgaekcghonaaGreatDoorPart2
import Derived.Test.YthmjgaekcghonaaGreatDoorPart3
import Derived.Test.YthmjgaekcghonaaGreatDoorPart4
import Derived.Test.YthmjgaekcghonaaGreatDoorPart5
import Derived.Test.YthmjgaekcghonaaGreatDoorPart6
import Derived.Test.YthmjgaekcghonaaGreatDoorPart7

/-
  Contracts of package schema's generic 'all' and of the function literal of 'distinct', at tables and columns.
-/
namespace Go.Proofs.YthmjgaekcghonaaGreatDoor
open Go.RowKit

theorem idT_any (x : Tb) (w : World) : Calls Tryz.prog 33 #[TV x] w fun e w' => e = .returned (.int .i64 x.id) ∧ Below w.heap.size w w' := by
  go_enter Tryz.func33, Tryz.ntmps33
  go_wp2_with fail
  go_ret
  exact ⟨rfl, by go_grown⟩
theorem nmT_any (x : Tb) (w : World) : Calls Tryz.prog 34 #[TV x] w fun e w' => e = .returned (.string x.nm) ∧ Below w.heap.size w w' := by
  go_enter Tryz.func34, Tryz.ntmps34
  go_wp2_with fail
  go_ret
  exact ⟨rfl, by go_grown⟩
theorem all1T_any (x : Tb) (b F : Nat) (caps : Array Value) (r : Bool) (w : World) (hc : w.cell? ⟨b, 0, none⟩ = some (.func (.func F) #[] caps))
    (hF : ∀ args w, (callFunc F args).run Tryz.prog w = .ok (.enter F args) w)
    (hcall : ∀ w', Below w.heap.size w w' → Calls Tryz.prog F (#[TV x] ++ caps) w' fun e w2 => e = .returned (.bool r) ∧ Below w'.heap.size w' w2) :
    Calls Tryz.prog 57 #[TV x, .pointer (some ⟨b, 0, none⟩)] w fun e w' => e = .returned (.bool !r) ∧ Below w.heap.size w w' := by
  have hk := keep_alloc hc
  have HC := Lib.hid hcall; clear hcall
  have hb0 := Lib.hid (below_one w (.cells (fT x).toArray 51))
  go_enter Tryz.func57, Tryz.ntmps57
  go_wp2_with fail
  refine (HC.out _ hb0.out).mono ?_
  rintro e w1 ⟨rfl, hb1⟩
  have Hb1 := Lib.hid (bthen hb0.out hb1); clear hb1
  go_wp2_with fail
  go_ret
  exact ⟨rfl, Hb1.out⟩
theorem entersAllT : ∀ args w, (callFunc 57 args).run Tryz.prog w = .ok (.enter 57 args) w := Go.Proofs.enters_of Tryz.func57 (by kernel_rfl) rfl
set_option maxRecDepth 100000 in
theorem allT_any (A : Option Addr) (cp : Nat) (l : List Tb) (F : Nat) (caps : Array Value) (p : Tb → Bool) (w : World) (hA : TabsAt w w.heap.size A l) (hl : l.length ≤ 1000000)
    (hF : ∀ args w, (callFunc F args).run Tryz.prog w = .ok (.enter F args) w)
    (hcall : ∀ x ∈ l, ∀ w', Below w.heap.size w w' → Calls Tryz.prog F (#[TV x] ++ caps) w' fun e w2 => e = .returned (.bool (p x)) ∧ Below w'.heap.size w' w2) :
    Calls Tryz.prog 30 #[.slice A l.length cp, .func (.func F) #[] caps] w fun e w' => e = .returned (.bool (l.all p)) ∧ Below w.heap.size w w' := by
  have HA := Lib.hid hA; clear hA
  have HC := Lib.hid hcall; clear hcall
  have hmf : ∀ (fn : Fn) (first cap : Array Value) (w : World), (Instr.makeFunc fn first cap).run Tryz.prog w = .ok (.func fn first cap) w := fun _ _ _ _ => rfl
  have hb0 := Lib.hid (below_one w (.cells #[.func (.func F) #[] caps] 52))
  have hc0 : Hid ((w.alloc (.cells #[.func (.func F) #[] caps] 52)).cell? ⟨w.heap.size, 0, none⟩ = some (.func (.func F) #[] caps)) := by show _ = _; simp
  go_enter Tryz.func30, Tryz.ntmps30
  go_wp2_with fail
  refine (firstT_any A cp l 57 #[.pointer (some ⟨w.heap.size, 0, none⟩)] (fun x => !p x) _ (HA.out.to hb0.out) hl entersAllT
    (fun x hx w' hb' => all1T_any x _ F caps (p x) w' ((hb'.cell (by simp)).trans hc0.out) hF (fun w2 hb2 => HC.out x hx w2 (bthen (bthen hb0.out hb') hb2)))).mono ?_
  rintro e w1 ⟨rfl, hb1⟩
  have Hb1 := Lib.hid (bthen hb0.out hb1); clear hb1
  have Haf := Lib.hid (all_find p l)
  obtain ⟨i, b, hfi, hbb⟩ : ∃ (i : Int) (b : Bool), fstV (l.findIdx? fun x => !p x) = .tuple #[.int .i64 i, .bool b] ∧ (l.findIdx? fun x => !p x).isSome = b := ⟨_, _, rfl, rfl⟩
  have Hbb : Hid (l.all p = !b) := by show _ = _; rw [← hbb, Haf.out]; simp
  rw [hfi]; clear hfi hbb
  go_wp2_with fail
  go_ret
  exact ⟨by rw [Hbb.out]; rfl, Hb1.out⟩
set_option maxRecDepth 100000 in
theorem dist1T_any (y x : Tb) (b b2 : Nat) (w : World) (hc : w.cell? ⟨b, 0, none⟩ = some (.func (.func 34) #[] #[])) (hx : BlkN w b2 (fT x)) :
    Calls Tryz.prog 61 #[TV y, .pointer (some ⟨b, 0, none⟩), .pointer (some ⟨b2, 0, none⟩)] w fun e w' => e = .returned (.bool (eqS y.nm x.nm)) ∧ Below w.heap.size w w' := by
  have hb0 := Lib.hid (below_one w (.cells (fT y).toArray 51))
  have hb2 : b2 < w.heap.size := World.block_lt_of_cell? w ⟨b2, 0, none⟩ (hx 0 _ rfl)
  have hb1 : b < w.heap.size := World.block_lt_of_cell? w ⟨b, 0, none⟩ hc
  have HX := Lib.hid (hx.alloc hb2 (.cells (fT y).toArray 51))
  have HY := Lib.hid (BlkN.new w _ (fT y) 51 rfl)
  have HN := Lib.hid (keep_alloc hc (.cells (fT y).toArray 51))
  clear hc hx
  have HC := Lib.hid (fun w => nmT_any y w)
  have HD := Lib.hid (fun w => nmT_any x w)
  obtain ⟨w0, hw0⟩ : ∃ w0, w0 = w.alloc (.cells (fT y).toArray 51) := ⟨_, rfl⟩
  have Hw0 : Hid (w.alloc (.cells #[.int .i64 y.id, .string y.nm, .int .i64 y.key, .int .i64 y.nx, .slice y.A y.cols.length y.cap] 51) = w0) := hw0.symm
  have hs0 : w0.heap.size = w.heap.size + 1 := by rw [hw0]; simp
  rw [← hw0] at HX HY HN hb0
  have hne : Nonempty (BelowBy w0.heap.size w0) := ⟨⟨w0, Below.refl _ _⟩⟩
  have N0 : ∀ p : BelowBy w0.heap.size w0, p.x.cell? ⟨b, 0, none⟩ = some (.func (.func 34) #[] #[]) := fun p => (p.h.cell (by simp; omega)).trans HN.out
  have X0 : ∀ p : BelowBy w0.heap.size w0, p.x.cell? ⟨b2, 0, none⟩ = some (.int .i64 x.id) := fun p => (p.h.cell (by simp; omega)).trans (HX.out 0 _ rfl)
  have X1 : ∀ p : BelowBy w0.heap.size w0, p.x.cell? ⟨b2, 1, none⟩ = some (.string x.nm) := fun p => (p.h.cell (by simp; omega)).trans (HX.out 1 _ rfl)
  have X2 : ∀ p : BelowBy w0.heap.size w0, p.x.cell? ⟨b2, 2, none⟩ = some (.int .i64 x.key) := fun p => (p.h.cell (by simp; omega)).trans (HX.out 2 _ rfl)
  have X3 : ∀ p : BelowBy w0.heap.size w0, p.x.cell? ⟨b2, 3, none⟩ = some (.int .i64 x.nx) := fun p => (p.h.cell (by simp; omega)).trans (HX.out 3 _ rfl)
  have X4 : ∀ p : BelowBy w0.heap.size w0, p.x.cell? ⟨b2, 4, none⟩ = some (.slice x.A x.cols.length x.cap) := fun p => (p.h.cell (by simp; omega)).trans (HX.out 4 _ rfl)
  have Y0 : ∀ p : BelowBy w0.heap.size w0, p.x.cell? ⟨w.heap.size, 0, none⟩ = some (.int .i64 y.id) := fun p => (p.h.cell (by simp; omega)).trans (HY.out 0 _ rfl)
  have Y1 : ∀ p : BelowBy w0.heap.size w0, p.x.cell? ⟨w.heap.size, 1, none⟩ = some (.string y.nm) := fun p => (p.h.cell (by simp; omega)).trans (HY.out 1 _ rfl)
  have Y2 : ∀ p : BelowBy w0.heap.size w0, p.x.cell? ⟨w.heap.size, 2, none⟩ = some (.int .i64 y.key) := fun p => (p.h.cell (by simp; omega)).trans (HY.out 2 _ rfl)
  have Y3 : ∀ p : BelowBy w0.heap.size w0, p.x.cell? ⟨w.heap.size, 3, none⟩ = some (.int .i64 y.nx) := fun p => (p.h.cell (by simp; omega)).trans (HY.out 3 _ rfl)
  have Y4 : ∀ p : BelowBy w0.heap.size w0, p.x.cell? ⟨w.heap.size, 4, none⟩ = some (.slice y.A y.cols.length y.cap) := fun p => (p.h.cell (by simp; omega)).trans (HY.out 4 _ rfl)
  clear hw0 hs0
  go_enter Tryz.func61, Tryz.ntmps61
  go_wp2_with fail
  rw [Hw0.out]
  refine wp_region_below w0.heap.size (by kernel_rfl) (by kernel_rfl) ?_
  repeat (
    with_reducible refine wpQuiet_step (fun K hK => ?_)
    go_simp
    refine hK _ ?_
    clear hK K)
  with_reducible refine wpQuiet_step (fun K hK => ?_)
  go_simp
  apply Exists.intro
  refine ⟨fun p => ?_, hK _ ?_⟩
  exact (HC.out _).mono fun e w5 ⟨he, hb⟩ => ⟨he, p.step (Nat.le_refl _) hb⟩
  clear hK K
  repeat (
    with_reducible refine wpQuiet_step (fun K hK => ?_)
    go_simp
    refine hK _ ?_
    clear hK K)
  with_reducible refine wpQuiet_step (fun K hK => ?_)
  go_simp
  apply Exists.intro
  refine ⟨fun p => ?_, hK _ ?_⟩
  exact (HD.out _).mono fun e w5 ⟨he, hb⟩ => ⟨he, p.step (Nat.le_refl _) hb⟩
  clear hK K
  repeat (
    with_reducible refine wpQuiet_step (fun K hK => ?_)
    go_simp
    refine hK _ ?_
    clear hK K)
  refine wpQuiet_nil ?_
  rintro _ ⟨p, rfl⟩
  go_wp2_with fail
  go_ret
  exact ⟨rfl, bthen hb0.out p.h⟩

theorem idC_any (x : Cb) (w : World) : Calls Tryz.prog 84 #[CV x] w fun e w' => e = .returned (.int .i64 x.id) ∧ Below w.heap.size w w' := by
  go_enter Tryz.func84, Tryz.ntmps84
  go_wp2_with fail
  go_ret
  exact ⟨rfl, by go_grown⟩
theorem nmC_any (x : Cb) (w : World) : Calls Tryz.prog 85 #[CV x] w fun e w' => e = .returned (.string x.nm) ∧ Below w.heap.size w w' := by
  go_enter Tryz.func85, Tryz.ntmps85
  go_wp2_with fail
  go_ret
  exact ⟨rfl, by go_grown⟩
theorem all1C_any (x : Cb) (b F : Nat) (caps : Array Value) (r : Bool) (w : World) (hc : w.cell? ⟨b, 0, none⟩ = some (.func (.func F) #[] caps))
    (hF : ∀ args w, (callFunc F args).run Tryz.prog w = .ok (.enter F args) w)
    (hcall : ∀ w', Below w.heap.size w w' → Calls Tryz.prog F (#[CV x] ++ caps) w' fun e w2 => e = .returned (.bool r) ∧ Below w'.heap.size w' w2) :
    Calls Tryz.prog 104 #[CV x, .pointer (some ⟨b, 0, none⟩)] w fun e w' => e = .returned (.bool !r) ∧ Below w.heap.size w w' := by
  have hk := keep_alloc hc
  have HC := Lib.hid hcall; clear hcall
  have hb0 := Lib.hid (below_one w (.cells (fC x).toArray 63))
  go_enter Tryz.func104, Tryz.ntmps104
  go_wp2_with fail
  refine (HC.out _ hb0.out).mono ?_
  rintro e w1 ⟨rfl, hb1⟩
  have Hb1 := Lib.hid (bthen hb0.out hb1); clear hb1
  go_wp2_with fail
  go_ret
  exact ⟨rfl, Hb1.out⟩
theorem entersAllC : ∀ args w, (callFunc 104 args).run Tryz.prog w = .ok (.enter 104 args) w := Go.Proofs.enters_of Tryz.func104 (by kernel_rfl) rfl
set_option maxRecDepth 100000 in
theorem allC_any (A : Option Addr) (cp : Nat) (l : List Cb) (F : Nat) (caps : Array Value) (p : Cb → Bool) (w : World) (hA : ColsAt w w.heap.size A l) (hl : l.length ≤ 1000000)
    (hF : ∀ args w, (callFunc F args).run Tryz.prog w = .ok (.enter F args) w)
    (hcall : ∀ x ∈ l, ∀ w', Below w.heap.size w w' → Calls Tryz.prog F (#[CV x] ++ caps) w' fun e w2 => e = .returned (.bool (p x)) ∧ Below w'.heap.size w' w2) :
    Calls Tryz.prog 80 #[.slice A l.length cp, .func (.func F) #[] caps] w fun e w' => e = .returned (.bool (l.all p)) ∧ Below w.heap.size w w' := by
  have HA := Lib.hid hA; clear hA
  have HC := Lib.hid hcall; clear hcall
  have hmf : ∀ (fn : Fn) (first cap : Array Value) (w : World), (Instr.makeFunc fn first cap).run Tryz.prog w = .ok (.func fn first cap) w := fun _ _ _ _ => rfl
  have hb0 := Lib.hid (below_one w (.cells #[.func (.func F) #[] caps] 91))
  have hc0 : Hid ((w.alloc (.cells #[.func (.func F) #[] caps] 91)).cell? ⟨w.heap.size, 0, none⟩ = some (.func (.func F) #[] caps)) := by show _ = _; simp
  go_enter Tryz.func80, Tryz.ntmps80
  go_wp2_with fail
  refine (firstC_any A cp l 104 #[.pointer (some ⟨w.heap.size, 0, none⟩)] (fun x => !p x) _ (RowAt.to HA.out hb0.out) hl entersAllC
    (fun x hx w' hb' => all1C_any x _ F caps (p x) w' ((hb'.cell (by simp)).trans hc0.out) hF (fun w2 hb2 => HC.out x hx w2 (bthen (bthen hb0.out hb') hb2)))).mono ?_
  rintro e w1 ⟨rfl, hb1⟩
  have Hb1 := Lib.hid (bthen hb0.out hb1); clear hb1
  have Haf := Lib.hid (all_find p l)
  obtain ⟨i, b, hfi, hbb⟩ : ∃ (i : Int) (b : Bool), fstV (l.findIdx? fun x => !p x) = .tuple #[.int .i64 i, .bool b] ∧ (l.findIdx? fun x => !p x).isSome = b := ⟨_, _, rfl, rfl⟩
  have Hbb : Hid (l.all p = !b) := by show _ = _; rw [← hbb, Haf.out]; simp
  rw [hfi]; clear hfi hbb
  go_wp2_with fail
  go_ret
  exact ⟨by rw [Hbb.out]; rfl, Hb1.out⟩
set_option maxRecDepth 100000 in
theorem dist1C_any (y x : Cb) (b b2 : Nat) (w : World) (hc : w.cell? ⟨b, 0, none⟩ = some (.func (.func 85) #[] #[])) (hx : BlkN w b2 (fC x)) :
    Calls Tryz.prog 107 #[CV y, .pointer (some ⟨b, 0, none⟩), .pointer (some ⟨b2, 0, none⟩)] w fun e w' => e = .returned (.bool (eqS y.nm x.nm)) ∧ Below w.heap.size w w' := by
  have hb0 := Lib.hid (below_one w (.cells (fC y).toArray 63))
  have hb2 : b2 < w.heap.size := World.block_lt_of_cell? w ⟨b2, 0, none⟩ (hx 0 _ rfl)
  have hb1 : b < w.heap.size := World.block_lt_of_cell? w ⟨b, 0, none⟩ hc
  have HX := Lib.hid (hx.alloc hb2 (.cells (fC y).toArray 63))
  have HY := Lib.hid (BlkN.new w _ (fC y) 63 rfl)
  have HN := Lib.hid (keep_alloc hc (.cells (fC y).toArray 63))
  clear hc hx
  have HC := Lib.hid (fun w => nmC_any y w)
  have HD := Lib.hid (fun w => nmC_any x w)
  obtain ⟨w0, hw0⟩ : ∃ w0, w0 = w.alloc (.cells (fC y).toArray 63) := ⟨_, rfl⟩
  have Hw0 : Hid (w.alloc (.cells #[.int .i64 y.id, .string y.nm, .int .i64 y.tk, .int .i64 y.tm, .bool y.nl, .int .i64 y.dk, .int .i64 y.dn, .string y.ds] 63) = w0) := hw0.symm
  have hs0 : w0.heap.size = w.heap.size + 1 := by rw [hw0]; simp
  rw [← hw0] at HX HY HN hb0
  have hne : Nonempty (BelowBy w0.heap.size w0) := ⟨⟨w0, Below.refl _ _⟩⟩
  have N0 : ∀ p : BelowBy w0.heap.size w0, p.x.cell? ⟨b, 0, none⟩ = some (.func (.func 85) #[] #[]) := fun p => (p.h.cell (by simp; omega)).trans HN.out
  have X0 : ∀ p : BelowBy w0.heap.size w0, p.x.cell? ⟨b2, 0, none⟩ = some (.int .i64 x.id) := fun p => (p.h.cell (by simp; omega)).trans (HX.out 0 _ rfl)
  have X1 : ∀ p : BelowBy w0.heap.size w0, p.x.cell? ⟨b2, 1, none⟩ = some (.string x.nm) := fun p => (p.h.cell (by simp; omega)).trans (HX.out 1 _ rfl)
  have X2 : ∀ p : BelowBy w0.heap.size w0, p.x.cell? ⟨b2, 2, none⟩ = some (.int .i64 x.tk) := fun p => (p.h.cell (by simp; omega)).trans (HX.out 2 _ rfl)
  have X3 : ∀ p : BelowBy w0.heap.size w0, p.x.cell? ⟨b2, 3, none⟩ = some (.int .i64 x.tm) := fun p => (p.h.cell (by simp; omega)).trans (HX.out 3 _ rfl)
  have X4 : ∀ p : BelowBy w0.heap.size w0, p.x.cell? ⟨b2, 4, none⟩ = some (.bool x.nl) := fun p => (p.h.cell (by simp; omega)).trans (HX.out 4 _ rfl)
  have X5 : ∀ p : BelowBy w0.heap.size w0, p.x.cell? ⟨b2, 5, none⟩ = some (.int .i64 x.dk) := fun p => (p.h.cell (by simp; omega)).trans (HX.out 5 _ rfl)
  have X6 : ∀ p : BelowBy w0.heap.size w0, p.x.cell? ⟨b2, 6, none⟩ = some (.int .i64 x.dn) := fun p => (p.h.cell (by simp; omega)).trans (HX.out 6 _ rfl)
  have X7 : ∀ p : BelowBy w0.heap.size w0, p.x.cell? ⟨b2, 7, none⟩ = some (.string x.ds) := fun p => (p.h.cell (by simp; omega)).trans (HX.out 7 _ rfl)
  have Y0 : ∀ p : BelowBy w0.heap.size w0, p.x.cell? ⟨w.heap.size, 0, none⟩ = some (.int .i64 y.id) := fun p => (p.h.cell (by simp; omega)).trans (HY.out 0 _ rfl)
  have Y1 : ∀ p : BelowBy w0.heap.size w0, p.x.cell? ⟨w.heap.size, 1, none⟩ = some (.string y.nm) := fun p => (p.h.cell (by simp; omega)).trans (HY.out 1 _ rfl)
  have Y2 : ∀ p : BelowBy w0.heap.size w0, p.x.cell? ⟨w.heap.size, 2, none⟩ = some (.int .i64 y.tk) := fun p => (p.h.cell (by simp; omega)).trans (HY.out 2 _ rfl)
  have Y3 : ∀ p : BelowBy w0.heap.size w0, p.x.cell? ⟨w.heap.size, 3, none⟩ = some (.int .i64 y.tm) := fun p => (p.h.cell (by simp; omega)).trans (HY.out 3 _ rfl)
  have Y4 : ∀ p : BelowBy w0.heap.size w0, p.x.cell? ⟨w.heap.size, 4, none⟩ = some (.bool y.nl) := fun p => (p.h.cell (by simp; omega)).trans (HY.out 4 _ rfl)
  have Y5 : ∀ p : BelowBy w0.heap.size w0, p.x.cell? ⟨w.heap.size, 5, none⟩ = some (.int .i64 y.dk) := fun p => (p.h.cell (by simp; omega)).trans (HY.out 5 _ rfl)
  have Y6 : ∀ p : BelowBy w0.heap.size w0, p.x.cell? ⟨w.heap.size, 6, none⟩ = some (.int .i64 y.dn) := fun p => (p.h.cell (by simp; omega)).trans (HY.out 6 _ rfl)
  have Y7 : ∀ p : BelowBy w0.heap.size w0, p.x.cell? ⟨w.heap.size, 7, none⟩ = some (.string y.ds) := fun p => (p.h.cell (by simp; omega)).trans (HY.out 7 _ rfl)
  clear hw0 hs0
  go_enter Tryz.func107, Tryz.ntmps107
  go_wp2_with fail
  rw [Hw0.out]
  refine wp_region_below w0.heap.size (by kernel_rfl) (by kernel_rfl) ?_
  repeat (
    with_reducible refine wpQuiet_step (fun K hK => ?_)
    go_simp
    refine hK _ ?_
    clear hK K)
  with_reducible refine wpQuiet_step (fun K hK => ?_)
  go_simp
  apply Exists.intro
  refine ⟨fun p => ?_, hK _ ?_⟩
  exact (HC.out _).mono fun e w5 ⟨he, hb⟩ => ⟨he, p.step (Nat.le_refl _) hb⟩
  clear hK K
  repeat (
    with_reducible refine wpQuiet_step (fun K hK => ?_)
    go_simp
    refine hK _ ?_
    clear hK K)
  with_reducible refine wpQuiet_step (fun K hK => ?_)
  go_simp
  apply Exists.intro
  refine ⟨fun p => ?_, hK _ ?_⟩
  exact (HD.out _).mono fun e w5 ⟨he, hb⟩ => ⟨he, p.step (Nat.le_refl _) hb⟩
  clear hK K
  repeat (
    with_reducible refine wpQuiet_step (fun K hK => ?_)
    go_simp
    refine hK _ ?_
    clear hK K)
  refine wpQuiet_nil ?_
  rintro _ ⟨p, rfl⟩
  go_wp2_with fail
  go_ret
  exact ⟨rfl, bthen hb0.out p.h⟩

end Go.Proofs.YthmjgaekcghonaaGreatDoor

/-
  Contract of package schema's generic 'distinct', at tables and columns.
-/
namespace Go.Proofs.YthmjgaekcghonaaGreatDoor
open Go.RowKit

theorem dist_more {α : Type} {idf : α → Int} {nmf : α → ByteArray} {l : List α} {k : Nat} {x : α} (h : ∀ j, j < k → OkAt idf nmf l j) (hx : l[k]? = some x) (h1 : ∀ y, 0 < k → l[k - 1]? = some y → idf y < idf x)
    (h2 : ((l.take k).findIdx? fun y => eqS (nmf y) (nmf x)) = none) : ∀ j, j < k + 1 → OkAt idf nmf l j := fun j hj => by
  by_cases e : j = k
  · subst e
    intro z hz
    rw [hx] at hz; cases hz
    refine ⟨h1, fun i y hi hy e => ?_⟩
    rw [List.findIdx?_eq_none_iff] at h2
    have := h2 y (List.mem_of_getElem? (i := i) (by rw [List.getElem?_take]; simp [hi, hy]))
    rw [eqS_iff.2 e] at this; cases this
  · exact h j (by omega)
theorem dist_name {α : Type} {idf : α → Int} {nmf : α → ByteArray} {l : List α} {k q : Nat} {x : α} (hx : l[k]? = some x) (h2 : ((l.take k).findIdx? fun y => eqS (nmf y) (nmf x)) = some q) : ¬ Dist idf nmf l := fun h => by
  obtain ⟨y, h3, h4, _⟩ := find_some h2
  rw [List.getElem?_take] at h3
  split at h3
  · exact (h k (List.getElem?_eq_some_iff.1 hx).1 x hx).2 q y (by assumption) h3 (eqS_iff.1 h4)
  · cases h3
theorem dist_id {α : Type} {idf : α → Int} {nmf : α → ByteArray} {l : List α} {j : Nat} {x y : α} (hx : l[j + 1]? = some x) (hy : l[j]? = some y) (h2 : idf x ≤ idf y) : ¬ Dist idf nmf l := fun h => by
  have := (h (j + 1) (List.getElem?_eq_some_iff.1 hx).1 x hx).1 y (by omega) (by simpa using hy)
  omega
theorem entersDistT : ∀ args w, (callFunc 61 args).run Tryz.prog w = .ok (.enter 61 args) w := Go.Proofs.enters_of Tryz.func61 (by kernel_rfl) rfl
set_option maxRecDepth 100000 in
set_option maxHeartbeats 1600000 in
theorem distT_any (A : Option Addr) (cp : Nat) (l : List Tb) (w : World) (hA : TabsAt w w.heap.size A l) (hl : l.length ≤ 1000000) (hcp : l.length ≤ cp) :
    Calls Tryz.prog 32 #[.slice A l.length cp, .func (.func 33) #[] #[], .func (.func 34) #[] #[]] w fun e w' => e = .returned (.bool (tf (Dist Tb.id Tb.nm l))) ∧ Below w.heap.size w w' := by
  have HA := Lib.hid hA; clear hA
  have hmf : ∀ (fn : Fn) (first cap : Array Value) (w : World), (Instr.makeFunc fn first cap).run Tryz.prog w = .ok (.func fn first cap) w := fun _ _ _ _ => rfl
  have hb0 := Lib.hid (below_one w (.cells #[.func (.func 34) #[] #[]] 68))
  have hc0 : Hid ((w.alloc (.cells #[.func (.func 34) #[] #[]] 68)).cell? ⟨w.heap.size, 0, none⟩ = some (.func (.func 34) #[] #[])) := by show _ = _; simp
  have hs0 : Hid ((w.alloc (.cells #[.func (.func 34) #[] #[]] 68)).heap.size = w.heap.size + 1) := by show _ = _; simp
  go_enter Tryz.func32, Tryz.ntmps32
  go_wp2_with fail
  obtain ⟨w0, hw0⟩ : ∃ w0, w.alloc (.cells #[.func (.func 34) #[] #[]] 68) = w0 := ⟨_, rfl⟩
  rw [hw0] at hb0 hc0 hs0 ⊢
  clear hw0
  go_loopw [14] (fun i wr => ∃ k : Nat, k ≤ l.length ∧ i = .int .i64 k ∧ Hid (∀ j, j < k → OkAt Tb.id Tb.nm l j) ∧ Hid (Below w0.heap.size w0 wr)) (fun i _ => l.length - (intOf i).toNat)
  case atStart => exact ⟨0, by omega, rfl, fun j h => absurd h (by omega), Below.refl _ _⟩
  case round =>
    obtain ⟨k, hk, rfl, hall, hb⟩ := hrel
    have Hbw := Lib.hid (bthen hb0.out hb.out)
    have Hsz2 := Lib.hid hb.out.size
    by_cases hlt : k < l.length
    · obtain ⟨x, hx⟩ : ∃ x, l[k]? = some x := ⟨l[k], by simp [hlt]⟩
      have Hx := Lib.hid hx
      obtain ⟨b, off, rfl, hbB, c0, c1, c2, c3, c4⟩ := (HA.out.below Hbw.out).get k x hx
      clear hx
      obtain ⟨w1, hw1⟩ : ∃ w1, wr.alloc (.cells (fT x).toArray 51) = w1 := ⟨_, rfl⟩
      have Hw1 : Hid (wr.alloc (.cells #[.int .i64 x.id, .string x.nm, .int .i64 x.key, .int .i64 x.nx, .slice x.A x.cols.length x.cap] 51) = w1) := hw1
      have Hb1' : Hid (Below wr.heap.size wr w1) := by show Below _ _ _; rw [← hw1]; exact below_one wr _
      have Hb1 := Lib.hid (bthen Hbw.out Hb1'.out)
      have HX : Hid (BlkN w1 wr.heap.size (fT x)) := by show BlkN _ _ _; rw [← hw1]; exact BlkN.new wr _ (fT x) _ rfl
      have Hs1 : Hid (w1.heap.size = wr.heap.size + 1) := by show _ = _; rw [← hw1]; simp
      have HN1 : Hid (w1.cell? ⟨w.heap.size, 0, none⟩ = some (.func (.func 34) #[] #[])) := (Hb1'.out.cell (show w.heap.size < wr.heap.size by have := hs0.out; have := Hsz2.out; omega)).trans ((hb.out.cell (show w.heap.size < w0.heap.size by have := hs0.out; omega)).trans hc0.out)
      clear hw1
      have hlk : (l.take k).length = k := by rw [List.length_take]; omega
      have HF1 : Hid (∀ w', Below w1.heap.size w1 w' → Calls Tryz.prog 56 #[.slice (some ⟨b, off, none⟩) k cp, .func (.func 61) #[] #[.pointer (some ⟨w.heap.size, 0, none⟩), .pointer (some ⟨wr.heap.size, 0, none⟩)]] w' fun e w2 => e = .returned (fstV ((l.take k).findIdx? fun y => eqS y.nm x.nm)) ∧ Below w'.heap.size w' w2) := fun w' hb' => by
        have := firstT_any (some ⟨b, off, none⟩) cp (l.take k) 61 #[.pointer (some ⟨w.heap.size, 0, none⟩), .pointer (some ⟨wr.heap.size, 0, none⟩)] (fun y => eqS y.nm x.nm) w' (((HA.out.to (bthen Hb1.out hb')).take k)) (by omega) entersDistT (fun y _ w2 hb2 =>
          dist1T_any y x _ _ w2 (((bthen hb' hb2).cell (show w.heap.size < w1.heap.size by have := hs0.out; have := Hsz2.out; have := Hs1.out; omega)).trans HN1.out) (HX.out.below (bthen hb' hb2) (by have := Hs1.out; omega)))
        rwa [hlk] at this
      clear hlk
      have hne : Nonempty (BelowBy w1.heap.size w1) := ⟨⟨w1, Below.refl _ _⟩⟩
      have X0 : ∀ p : BelowBy w1.heap.size w1, p.x.cell? ⟨wr.heap.size, 0, none⟩ = some (.int .i64 x.id) := fun p => (p.h.cell (by have := Hs1.out; simp; omega)).trans (HX.out 0 _ rfl)
      have X1 : ∀ p : BelowBy w1.heap.size w1, p.x.cell? ⟨wr.heap.size, 1, none⟩ = some (.string x.nm) := fun p => (p.h.cell (by have := Hs1.out; simp; omega)).trans (HX.out 1 _ rfl)
      have X2 : ∀ p : BelowBy w1.heap.size w1, p.x.cell? ⟨wr.heap.size, 2, none⟩ = some (.int .i64 x.key) := fun p => (p.h.cell (by have := Hs1.out; simp; omega)).trans (HX.out 2 _ rfl)
      have X3 : ∀ p : BelowBy w1.heap.size w1, p.x.cell? ⟨wr.heap.size, 3, none⟩ = some (.int .i64 x.nx) := fun p => (p.h.cell (by have := Hs1.out; simp; omega)).trans (HX.out 3 _ rfl)
      have X4 : ∀ p : BelowBy w1.heap.size w1, p.x.cell? ⟨wr.heap.size, 4, none⟩ = some (.slice x.A x.cols.length x.cap) := fun p => (p.h.cell (by have := Hs1.out; simp; omega)).trans (HX.out 4 _ rfl)
      by_cases hk0 : k = 0
      · subst hk0
        simp only [Nat.zero_mul, Nat.add_zero] at c0 c1 c2 c3 c4
        cases ho : (l.take 0).findIdx? fun y => eqS y.nm x.nm with
        | none =>
          have Ho : Hid (fstV ((l.take 0).findIdx? fun y => eqS y.nm x.nm) = .tuple #[.int .i64 0, .bool false]) := by show _ = _; rw [ho]; rfl
          have Hall : Hid (∀ i, i < 0 + 1 → OkAt Tb.id Tb.nm l i) := dist_more hall.out Hx.out (fun y h _ => absurd h (by omega)) ho
          clear ho
          go_wp2_with fail
          rw [Hw1.out]
          refine wp_region_below w1.heap.size (by kernel_rfl) (by kernel_rfl) ?_
          repeat (
            with_reducible refine wpQuiet_step (fun K hK => ?_)
            go_simp
            refine hK _ ?_
            clear hK K)
          refine wpQuiet_nil ?_
          rintro _ ⟨p, rfl⟩
          go_wp2_with fail
          refine (HF1.out p.x p.h).mono ?_
          rintro e w2 ⟨rfl, hb2⟩
          have Hb2 := Lib.hid (bthen (bthen Hb1.out p.h) hb2)
          have Hb3 := Lib.hid (bthen (bthen (bthen hb.out Hb1'.out) p.h) hb2); clear hb2
          rw [Ho.out]
          go_wp2_with fail
          go_roundw
          case rel => exact ⟨0 + 1, by omega, by go_num, Hall.out, Hb3.out⟩
          case measure => simp [intOf]; omega
        | some q =>
          have Ho : Hid (fstV ((l.take 0).findIdx? fun y => eqS y.nm x.nm) = .tuple #[.int .i64 (q : Int), .bool true]) := by show _ = _; rw [ho]; rfl
          have Hno : Hid (tf (Dist Tb.id Tb.nm l) = false) := tf_no (dist_name Hx.out ho)
          clear ho
          go_wp2_with fail
          rw [Hw1.out]
          refine wp_region_below w1.heap.size (by kernel_rfl) (by kernel_rfl) ?_
          repeat (
            with_reducible refine wpQuiet_step (fun K hK => ?_)
            go_simp
            refine hK _ ?_
            clear hK K)
          refine wpQuiet_nil ?_
          rintro _ ⟨p, rfl⟩
          go_wp2_with fail
          refine (HF1.out p.x p.h).mono ?_
          rintro e w2 ⟨rfl, hb2⟩
          have Hb2 := Lib.hid (bthen (bthen Hb1.out p.h) hb2)
          have Hb3 := Lib.hid (bthen (bthen (bthen hb.out Hb1'.out) p.h) hb2); clear hb2
          rw [Ho.out]
          go_wp2_with fail
          go_ret
          exact ⟨by rw [Hno.out]; rfl, Hb2.out⟩
      · obtain ⟨j, rfl⟩ : ∃ j, k = j + 1 := ⟨k - 1, by omega⟩
        clear hk0
        obtain ⟨y, hy⟩ : ∃ y, l[j]? = some y := ⟨l[j]'(by omega), by simp [show j < l.length by omega]⟩
        have Hy := Lib.hid hy
        obtain ⟨b', off', e', _, y0, y1, y2, y3, y4⟩ := (HA.out.below Hbw.out).get j y hy
        cases e'
        clear hy
        have Y0 : ∀ p : BelowBy w1.heap.size w1, p.x.cell? ⟨b, off + j * 5, none⟩ = some (.int .i64 y.id) := fun p => (p.h.cell (by have := Hs1.out; have := Hbw.out.size; simp; omega)).trans ((Hb1'.out.cell (by have := Hbw.out.size; simp; omega)).trans y0)
        have Y1 : ∀ p : BelowBy w1.heap.size w1, p.x.cell? ⟨b, off + j * 5 + 1, none⟩ = some (.string y.nm) := fun p => (p.h.cell (by have := Hs1.out; have := Hbw.out.size; simp; omega)).trans ((Hb1'.out.cell (by have := Hbw.out.size; simp; omega)).trans y1)
        have Y2 : ∀ p : BelowBy w1.heap.size w1, p.x.cell? ⟨b, off + j * 5 + 2, none⟩ = some (.int .i64 y.key) := fun p => (p.h.cell (by have := Hs1.out; have := Hbw.out.size; simp; omega)).trans ((Hb1'.out.cell (by have := Hbw.out.size; simp; omega)).trans y2)
        have Y3 : ∀ p : BelowBy w1.heap.size w1, p.x.cell? ⟨b, off + j * 5 + 3, none⟩ = some (.int .i64 y.nx) := fun p => (p.h.cell (by have := Hs1.out; have := Hbw.out.size; simp; omega)).trans ((Hb1'.out.cell (by have := Hbw.out.size; simp; omega)).trans y3)
        have Y4 : ∀ p : BelowBy w1.heap.size w1, p.x.cell? ⟨b, off + j * 5 + 4, none⟩ = some (.slice y.A y.cols.length y.cap) := fun p => (p.h.cell (by have := Hs1.out; have := Hbw.out.size; simp; omega)).trans ((Hb1'.out.cell (by have := Hbw.out.size; simp; omega)).trans y4)
        clear y0 y1 y2 y3 y4
        have hwj : IntKind.i64.wrap (j : Int) = (j : Int) := by rw [IntKind.wrap_i64]; omega
        have hj0 : (0 : Int) ≤ (j : Int) := by omega
        have hjl : (j : Int) < (l.length : Int) := by omega
        have HI := Lib.hid (fun w => idT_any y w)
        have HJ := Lib.hid (fun w => idT_any x w)
        cases hd : decide (x.id ≤ y.id)
        · have Hlt : Hid (y.id < x.id) := by have h := of_decide_eq_false hd; show _ < _; omega
          have Hok : Hid (∀ z, 0 < j + 1 → l[j + 1 - 1]? = some z → z.id < x.id) := fun z _ hz => by
            rw [show j + 1 - 1 = j by omega, Hy.out] at hz
            cases hz
            exact Hlt.out
          
          cases ho : (l.take (j + 1)).findIdx? fun y => eqS y.nm x.nm with
          | none =>
            have Ho : Hid (fstV ((l.take (j + 1)).findIdx? fun y => eqS y.nm x.nm) = .tuple #[.int .i64 0, .bool false]) := by show _ = _; rw [ho]; rfl
            have Hall : Hid (∀ i, i < j + 1 + 1 → OkAt Tb.id Tb.nm l i) := dist_more hall.out Hx.out Hok.out ho
            clear ho
            go_wp2_with fail
            rw [Hw1.out]
            refine wp_region_below w1.heap.size (by kernel_rfl) (by kernel_rfl) ?_
            repeat (
              with_reducible refine wpQuiet_step (fun K hK => ?_)
              go_simp
              refine hK _ ?_
              clear hK K)
            with_reducible refine wpQuiet_step (fun K hK => ?_)
            go_simp
            apply Exists.intro
            refine ⟨fun p => ?_, hK _ ?_⟩
            exact (HI.out _).mono fun e w5 ⟨he, hb⟩ => ⟨he, p.step (Nat.le_refl _) hb⟩
            clear hK K
            repeat (
              with_reducible refine wpQuiet_step (fun K hK => ?_)
              go_simp
              refine hK _ ?_
              clear hK K)
            with_reducible refine wpQuiet_step (fun K hK => ?_)
            go_simp
            apply Exists.intro
            refine ⟨fun p => ?_, hK _ ?_⟩
            exact (HJ.out _).mono fun e w5 ⟨he, hb⟩ => ⟨he, p.step (Nat.le_refl _) hb⟩
            clear hK K
            repeat (
              with_reducible refine wpQuiet_step (fun K hK => ?_)
              go_simp
              refine hK _ ?_
              clear hK K)
            refine wpQuiet_nil ?_
            rintro _ ⟨p, rfl⟩
            go_wp2_with fail
            refine (HF1.out p.x p.h).mono ?_
            rintro e w2 ⟨rfl, hb2⟩
            have Hb2 := Lib.hid (bthen (bthen Hb1.out p.h) hb2)
            have Hb3 := Lib.hid (bthen (bthen (bthen hb.out Hb1'.out) p.h) hb2); clear hb2
            rw [Ho.out]
            go_wp2_with fail
            go_roundw
            case rel => exact ⟨j + 1 + 1, by omega, by go_num, Hall.out, Hb3.out⟩
            case measure => simp [intOf]; omega
          | some q =>
            have Ho : Hid (fstV ((l.take (j + 1)).findIdx? fun y => eqS y.nm x.nm) = .tuple #[.int .i64 (q : Int), .bool true]) := by show _ = _; rw [ho]; rfl
            have Hno : Hid (tf (Dist Tb.id Tb.nm l) = false) := tf_no (dist_name Hx.out ho)
            clear ho
            go_wp2_with fail
            rw [Hw1.out]
            refine wp_region_below w1.heap.size (by kernel_rfl) (by kernel_rfl) ?_
            repeat (
              with_reducible refine wpQuiet_step (fun K hK => ?_)
              go_simp
              refine hK _ ?_
              clear hK K)
            with_reducible refine wpQuiet_step (fun K hK => ?_)
            go_simp
            apply Exists.intro
            refine ⟨fun p => ?_, hK _ ?_⟩
            exact (HI.out _).mono fun e w5 ⟨he, hb⟩ => ⟨he, p.step (Nat.le_refl _) hb⟩
            clear hK K
            repeat (
              with_reducible refine wpQuiet_step (fun K hK => ?_)
              go_simp
              refine hK _ ?_
              clear hK K)
            with_reducible refine wpQuiet_step (fun K hK => ?_)
            go_simp
            apply Exists.intro
            refine ⟨fun p => ?_, hK _ ?_⟩
            exact (HJ.out _).mono fun e w5 ⟨he, hb⟩ => ⟨he, p.step (Nat.le_refl _) hb⟩
            clear hK K
            repeat (
              with_reducible refine wpQuiet_step (fun K hK => ?_)
              go_simp
              refine hK _ ?_
              clear hK K)
            refine wpQuiet_nil ?_
            rintro _ ⟨p, rfl⟩
            go_wp2_with fail
            refine (HF1.out p.x p.h).mono ?_
            rintro e w2 ⟨rfl, hb2⟩
            have Hb2 := Lib.hid (bthen (bthen Hb1.out p.h) hb2)
            have Hb3 := Lib.hid (bthen (bthen (bthen hb.out Hb1'.out) p.h) hb2); clear hb2
            rw [Ho.out]
            go_wp2_with fail
            go_ret
            exact ⟨by rw [Hno.out]; rfl, Hb2.out⟩
        · have Hno : Hid (tf (Dist Tb.id Tb.nm l) = false) := tf_no (dist_id Hx.out Hy.out (of_decide_eq_true hd))
          go_wp2_with fail
          rw [Hw1.out]
          refine wp_region_below w1.heap.size (by kernel_rfl) (by kernel_rfl) ?_
          repeat (
            with_reducible refine wpQuiet_step (fun K hK => ?_)
            go_simp
            refine hK _ ?_
            clear hK K)
          with_reducible refine wpQuiet_step (fun K hK => ?_)
          go_simp
          apply Exists.intro
          refine ⟨fun p => ?_, hK _ ?_⟩
          exact (HI.out _).mono fun e w5 ⟨he, hb⟩ => ⟨he, p.step (Nat.le_refl _) hb⟩
          clear hK K
          repeat (
            with_reducible refine wpQuiet_step (fun K hK => ?_)
            go_simp
            refine hK _ ?_
            clear hK K)
          with_reducible refine wpQuiet_step (fun K hK => ?_)
          go_simp
          apply Exists.intro
          refine ⟨fun p => ?_, hK _ ?_⟩
          exact (HJ.out _).mono fun e w5 ⟨he, hb⟩ => ⟨he, p.step (Nat.le_refl _) hb⟩
          clear hK K
          repeat (
            with_reducible refine wpQuiet_step (fun K hK => ?_)
            go_simp
            refine hK _ ?_
            clear hK K)
          refine wpQuiet_nil ?_
          rintro _ ⟨p, rfl⟩
          go_wp2_with fail
          go_ret
          exact ⟨by rw [Hno.out]; rfl, bthen Hb1.out p.h⟩
    · have Hyes : Hid (tf (Dist Tb.id Tb.nm l) = true) := tf_yes fun i hi => hall.out i (by omega)
      go_wp2_with fail
      go_ret
      exact ⟨by rw [Hyes.out]; rfl, Hbw.out⟩
theorem entersDistC : ∀ args w, (callFunc 107 args).run Tryz.prog w = .ok (.enter 107 args) w := Go.Proofs.enters_of Tryz.func107 (by kernel_rfl) rfl
set_option maxRecDepth 100000 in
set_option maxHeartbeats 1600000 in
theorem distC_any (A : Option Addr) (cp : Nat) (l : List Cb) (w : World) (hA : ColsAt w w.heap.size A l) (hl : l.length ≤ 1000000) (hcp : l.length ≤ cp) :
    Calls Tryz.prog 83 #[.slice A l.length cp, .func (.func 84) #[] #[], .func (.func 85) #[] #[]] w fun e w' => e = .returned (.bool (tf (Dist Cb.id Cb.nm l))) ∧ Below w.heap.size w w' := by
  have HA := Lib.hid hA; clear hA
  have hmf : ∀ (fn : Fn) (first cap : Array Value) (w : World), (Instr.makeFunc fn first cap).run Tryz.prog w = .ok (.func fn first cap) w := fun _ _ _ _ => rfl
  have hb0 := Lib.hid (below_one w (.cells #[.func (.func 85) #[] #[]] 109))
  have hc0 : Hid ((w.alloc (.cells #[.func (.func 85) #[] #[]] 109)).cell? ⟨w.heap.size, 0, none⟩ = some (.func (.func 85) #[] #[])) := by show _ = _; simp
  have hs0 : Hid ((w.alloc (.cells #[.func (.func 85) #[] #[]] 109)).heap.size = w.heap.size + 1) := by show _ = _; simp
  go_enter Tryz.func83, Tryz.ntmps83
  go_wp2_with fail
  obtain ⟨w0, hw0⟩ : ∃ w0, w.alloc (.cells #[.func (.func 85) #[] #[]] 109) = w0 := ⟨_, rfl⟩
  rw [hw0] at hb0 hc0 hs0 ⊢
  clear hw0
  go_loopw [14] (fun i wr => ∃ k : Nat, k ≤ l.length ∧ i = .int .i64 k ∧ Hid (∀ j, j < k → OkAt Cb.id Cb.nm l j) ∧ Hid (Below w0.heap.size w0 wr)) (fun i _ => l.length - (intOf i).toNat)
  case atStart => exact ⟨0, by omega, rfl, fun j h => absurd h (by omega), Below.refl _ _⟩
  case round =>
    obtain ⟨k, hk, rfl, hall, hb⟩ := hrel
    have Hbw := Lib.hid (bthen hb0.out hb.out)
    have Hsz2 := Lib.hid hb.out.size
    by_cases hlt : k < l.length
    · obtain ⟨x, hx⟩ : ∃ x, l[k]? = some x := ⟨l[k], by simp [hlt]⟩
      have Hx := Lib.hid hx
      obtain ⟨b, off, rfl, hbB, c0, c1, c2, c3, c4, c5, c6, c7⟩ := ColsAt.get (RowAt.below HA.out Hbw.out) k x hx
      clear hx
      obtain ⟨w1, hw1⟩ : ∃ w1, wr.alloc (.cells (fC x).toArray 63) = w1 := ⟨_, rfl⟩
      have Hw1 : Hid (wr.alloc (.cells #[.int .i64 x.id, .string x.nm, .int .i64 x.tk, .int .i64 x.tm, .bool x.nl, .int .i64 x.dk, .int .i64 x.dn, .string x.ds] 63) = w1) := hw1
      have Hb1' : Hid (Below wr.heap.size wr w1) := by show Below _ _ _; rw [← hw1]; exact below_one wr _
      have Hb1 := Lib.hid (bthen Hbw.out Hb1'.out)
      have HX : Hid (BlkN w1 wr.heap.size (fC x)) := by show BlkN _ _ _; rw [← hw1]; exact BlkN.new wr _ (fC x) _ rfl
      have Hs1 : Hid (w1.heap.size = wr.heap.size + 1) := by show _ = _; rw [← hw1]; simp
      have HN1 : Hid (w1.cell? ⟨w.heap.size, 0, none⟩ = some (.func (.func 85) #[] #[])) := (Hb1'.out.cell (show w.heap.size < wr.heap.size by have := hs0.out; have := Hsz2.out; omega)).trans ((hb.out.cell (show w.heap.size < w0.heap.size by have := hs0.out; omega)).trans hc0.out)
      clear hw1
      have hlk : (l.take k).length = k := by rw [List.length_take]; omega
      have HF1 : Hid (∀ w', Below w1.heap.size w1 w' → Calls Tryz.prog 93 #[.slice (some ⟨b, off, none⟩) k cp, .func (.func 107) #[] #[.pointer (some ⟨w.heap.size, 0, none⟩), .pointer (some ⟨wr.heap.size, 0, none⟩)]] w' fun e w2 => e = .returned (fstV ((l.take k).findIdx? fun y => eqS y.nm x.nm)) ∧ Below w'.heap.size w' w2) := fun w' hb' => by
        have := firstC_any (some ⟨b, off, none⟩) cp (l.take k) 107 #[.pointer (some ⟨w.heap.size, 0, none⟩), .pointer (some ⟨wr.heap.size, 0, none⟩)] (fun y => eqS y.nm x.nm) w' ((RowAt.take (RowAt.to HA.out (bthen Hb1.out hb')) k)) (by omega) entersDistC (fun y _ w2 hb2 =>
          dist1C_any y x _ _ w2 (((bthen hb' hb2).cell (show w.heap.size < w1.heap.size by have := hs0.out; have := Hsz2.out; have := Hs1.out; omega)).trans HN1.out) (HX.out.below (bthen hb' hb2) (by have := Hs1.out; omega)))
        rwa [hlk] at this
      clear hlk
      have hne : Nonempty (BelowBy w1.heap.size w1) := ⟨⟨w1, Below.refl _ _⟩⟩
      have X0 : ∀ p : BelowBy w1.heap.size w1, p.x.cell? ⟨wr.heap.size, 0, none⟩ = some (.int .i64 x.id) := fun p => (p.h.cell (by have := Hs1.out; simp; omega)).trans (HX.out 0 _ rfl)
      have X1 : ∀ p : BelowBy w1.heap.size w1, p.x.cell? ⟨wr.heap.size, 1, none⟩ = some (.string x.nm) := fun p => (p.h.cell (by have := Hs1.out; simp; omega)).trans (HX.out 1 _ rfl)
      have X2 : ∀ p : BelowBy w1.heap.size w1, p.x.cell? ⟨wr.heap.size, 2, none⟩ = some (.int .i64 x.tk) := fun p => (p.h.cell (by have := Hs1.out; simp; omega)).trans (HX.out 2 _ rfl)
      have X3 : ∀ p : BelowBy w1.heap.size w1, p.x.cell? ⟨wr.heap.size, 3, none⟩ = some (.int .i64 x.tm) := fun p => (p.h.cell (by have := Hs1.out; simp; omega)).trans (HX.out 3 _ rfl)
      have X4 : ∀ p : BelowBy w1.heap.size w1, p.x.cell? ⟨wr.heap.size, 4, none⟩ = some (.bool x.nl) := fun p => (p.h.cell (by have := Hs1.out; simp; omega)).trans (HX.out 4 _ rfl)
      have X5 : ∀ p : BelowBy w1.heap.size w1, p.x.cell? ⟨wr.heap.size, 5, none⟩ = some (.int .i64 x.dk) := fun p => (p.h.cell (by have := Hs1.out; simp; omega)).trans (HX.out 5 _ rfl)
      have X6 : ∀ p : BelowBy w1.heap.size w1, p.x.cell? ⟨wr.heap.size, 6, none⟩ = some (.int .i64 x.dn) := fun p => (p.h.cell (by have := Hs1.out; simp; omega)).trans (HX.out 6 _ rfl)
      have X7 : ∀ p : BelowBy w1.heap.size w1, p.x.cell? ⟨wr.heap.size, 7, none⟩ = some (.string x.ds) := fun p => (p.h.cell (by have := Hs1.out; simp; omega)).trans (HX.out 7 _ rfl)
      by_cases hk0 : k = 0
      · subst hk0
        simp only [Nat.zero_mul, Nat.add_zero] at c0 c1 c2 c3 c4 c5 c6 c7
        cases ho : (l.take 0).findIdx? fun y => eqS y.nm x.nm with
        | none =>
          have Ho : Hid (fstV ((l.take 0).findIdx? fun y => eqS y.nm x.nm) = .tuple #[.int .i64 0, .bool false]) := by show _ = _; rw [ho]; rfl
          have Hall : Hid (∀ i, i < 0 + 1 → OkAt Cb.id Cb.nm l i) := dist_more hall.out Hx.out (fun y h _ => absurd h (by omega)) ho
          clear ho
          go_wp2_with fail
          rw [Hw1.out]
          refine wp_region_below w1.heap.size (by kernel_rfl) (by kernel_rfl) ?_
          repeat (
            with_reducible refine wpQuiet_step (fun K hK => ?_)
            go_simp
            refine hK _ ?_
            clear hK K)
          refine wpQuiet_nil ?_
          rintro _ ⟨p, rfl⟩
          go_wp2_with fail
          refine (HF1.out p.x p.h).mono ?_
          rintro e w2 ⟨rfl, hb2⟩
          have Hb2 := Lib.hid (bthen (bthen Hb1.out p.h) hb2)
          have Hb3 := Lib.hid (bthen (bthen (bthen hb.out Hb1'.out) p.h) hb2); clear hb2
          rw [Ho.out]
          go_wp2_with fail
          go_roundw
          case rel => exact ⟨0 + 1, by omega, by go_num, Hall.out, Hb3.out⟩
          case measure => simp [intOf]; omega
        | some q =>
          have Ho : Hid (fstV ((l.take 0).findIdx? fun y => eqS y.nm x.nm) = .tuple #[.int .i64 (q : Int), .bool true]) := by show _ = _; rw [ho]; rfl
          have Hno : Hid (tf (Dist Cb.id Cb.nm l) = false) := tf_no (dist_name Hx.out ho)
          clear ho
          go_wp2_with fail
          rw [Hw1.out]
          refine wp_region_below w1.heap.size (by kernel_rfl) (by kernel_rfl) ?_
          repeat (
            with_reducible refine wpQuiet_step (fun K hK => ?_)
            go_simp
            refine hK _ ?_
            clear hK K)
          refine wpQuiet_nil ?_
          rintro _ ⟨p, rfl⟩
          go_wp2_with fail
          refine (HF1.out p.x p.h).mono ?_
          rintro e w2 ⟨rfl, hb2⟩
          have Hb2 := Lib.hid (bthen (bthen Hb1.out p.h) hb2)
          have Hb3 := Lib.hid (bthen (bthen (bthen hb.out Hb1'.out) p.h) hb2); clear hb2
          rw [Ho.out]
          go_wp2_with fail
          go_ret
          exact ⟨by rw [Hno.out]; rfl, Hb2.out⟩
      · obtain ⟨j, rfl⟩ : ∃ j, k = j + 1 := ⟨k - 1, by omega⟩
        clear hk0
        obtain ⟨y, hy⟩ : ∃ y, l[j]? = some y := ⟨l[j]'(by omega), by simp [show j < l.length by omega]⟩
        have Hy := Lib.hid hy
        obtain ⟨b', off', e', _, y0, y1, y2, y3, y4, y5, y6, y7⟩ := ColsAt.get (RowAt.below HA.out Hbw.out) j y hy
        cases e'
        clear hy
        have Y0 : ∀ p : BelowBy w1.heap.size w1, p.x.cell? ⟨b, off + j * 8, none⟩ = some (.int .i64 y.id) := fun p => (p.h.cell (by have := Hs1.out; have := Hbw.out.size; simp; omega)).trans ((Hb1'.out.cell (by have := Hbw.out.size; simp; omega)).trans y0)
        have Y1 : ∀ p : BelowBy w1.heap.size w1, p.x.cell? ⟨b, off + j * 8 + 1, none⟩ = some (.string y.nm) := fun p => (p.h.cell (by have := Hs1.out; have := Hbw.out.size; simp; omega)).trans ((Hb1'.out.cell (by have := Hbw.out.size; simp; omega)).trans y1)
        have Y2 : ∀ p : BelowBy w1.heap.size w1, p.x.cell? ⟨b, off + j * 8 + 2, none⟩ = some (.int .i64 y.tk) := fun p => (p.h.cell (by have := Hs1.out; have := Hbw.out.size; simp; omega)).trans ((Hb1'.out.cell (by have := Hbw.out.size; simp; omega)).trans y2)
        have Y3 : ∀ p : BelowBy w1.heap.size w1, p.x.cell? ⟨b, off + j * 8 + 3, none⟩ = some (.int .i64 y.tm) := fun p => (p.h.cell (by have := Hs1.out; have := Hbw.out.size; simp; omega)).trans ((Hb1'.out.cell (by have := Hbw.out.size; simp; omega)).trans y3)
        have Y4 : ∀ p : BelowBy w1.heap.size w1, p.x.cell? ⟨b, off + j * 8 + 4, none⟩ = some (.bool y.nl) := fun p => (p.h.cell (by have := Hs1.out; have := Hbw.out.size; simp; omega)).trans ((Hb1'.out.cell (by have := Hbw.out.size; simp; omega)).trans y4)
        have Y5 : ∀ p : BelowBy w1.heap.size w1, p.x.cell? ⟨b, off + j * 8 + 5, none⟩ = some (.int .i64 y.dk) := fun p => (p.h.cell (by have := Hs1.out; have := Hbw.out.size; simp; omega)).trans ((Hb1'.out.cell (by have := Hbw.out.size; simp; omega)).trans y5)
        have Y6 : ∀ p : BelowBy w1.heap.size w1, p.x.cell? ⟨b, off + j * 8 + 6, none⟩ = some (.int .i64 y.dn) := fun p => (p.h.cell (by have := Hs1.out; have := Hbw.out.size; simp; omega)).trans ((Hb1'.out.cell (by have := Hbw.out.size; simp; omega)).trans y6)
        have Y7 : ∀ p : BelowBy w1.heap.size w1, p.x.cell? ⟨b, off + j * 8 + 7, none⟩ = some (.string y.ds) := fun p => (p.h.cell (by have := Hs1.out; have := Hbw.out.size; simp; omega)).trans ((Hb1'.out.cell (by have := Hbw.out.size; simp; omega)).trans y7)
        clear y0 y1 y2 y3 y4 y5 y6 y7
        have hwj : IntKind.i64.wrap (j : Int) = (j : Int) := by rw [IntKind.wrap_i64]; omega
        have hj0 : (0 : Int) ≤ (j : Int) := by omega
        have hjl : (j : Int) < (l.length : Int) := by omega
        have HI := Lib.hid (fun w => idC_any y w)
        have HJ := Lib.hid (fun w => idC_any x w)
        cases hd : decide (x.id ≤ y.id)
        · have Hlt : Hid (y.id < x.id) := by have h := of_decide_eq_false hd; show _ < _; omega
          have Hok : Hid (∀ z, 0 < j + 1 → l[j + 1 - 1]? = some z → z.id < x.id) := fun z _ hz => by
            rw [show j + 1 - 1 = j by omega, Hy.out] at hz
            cases hz
            exact Hlt.out
          
          cases ho : (l.take (j + 1)).findIdx? fun y => eqS y.nm x.nm with
          | none =>
            have Ho : Hid (fstV ((l.take (j + 1)).findIdx? fun y => eqS y.nm x.nm) = .tuple #[.int .i64 0, .bool false]) := by show _ = _; rw [ho]; rfl
            have Hall : Hid (∀ i, i < j + 1 + 1 → OkAt Cb.id Cb.nm l i) := dist_more hall.out Hx.out Hok.out ho
            clear ho
            go_wp2_with fail
            rw [Hw1.out]
            refine wp_region_below w1.heap.size (by kernel_rfl) (by kernel_rfl) ?_
            repeat (
              with_reducible refine wpQuiet_step (fun K hK => ?_)
              go_simp
              refine hK _ ?_
              clear hK K)
            with_reducible refine wpQuiet_step (fun K hK => ?_)
            go_simp
            apply Exists.intro
            refine ⟨fun p => ?_, hK _ ?_⟩
            exact (HI.out _).mono fun e w5 ⟨he, hb⟩ => ⟨he, p.step (Nat.le_refl _) hb⟩
            clear hK K
            repeat (
              with_reducible refine wpQuiet_step (fun K hK => ?_)
              go_simp
              refine hK _ ?_
              clear hK K)
            with_reducible refine wpQuiet_step (fun K hK => ?_)
            go_simp
            apply Exists.intro
            refine ⟨fun p => ?_, hK _ ?_⟩
            exact (HJ.out _).mono fun e w5 ⟨he, hb⟩ => ⟨he, p.step (Nat.le_refl _) hb⟩
            clear hK K
            repeat (
              with_reducible refine wpQuiet_step (fun K hK => ?_)
              go_simp
              refine hK _ ?_
              clear hK K)
            refine wpQuiet_nil ?_
            rintro _ ⟨p, rfl⟩
            go_wp2_with fail
            refine (HF1.out p.x p.h).mono ?_
            rintro e w2 ⟨rfl, hb2⟩
            have Hb2 := Lib.hid (bthen (bthen Hb1.out p.h) hb2)
            have Hb3 := Lib.hid (bthen (bthen (bthen hb.out Hb1'.out) p.h) hb2); clear hb2
            rw [Ho.out]
            go_wp2_with fail
            go_roundw
            case rel => exact ⟨j + 1 + 1, by omega, by go_num, Hall.out, Hb3.out⟩
            case measure => simp [intOf]; omega
          | some q =>
            have Ho : Hid (fstV ((l.take (j + 1)).findIdx? fun y => eqS y.nm x.nm) = .tuple #[.int .i64 (q : Int), .bool true]) := by show _ = _; rw [ho]; rfl
            have Hno : Hid (tf (Dist Cb.id Cb.nm l) = false) := tf_no (dist_name Hx.out ho)
            clear ho
            go_wp2_with fail
            rw [Hw1.out]
            refine wp_region_below w1.heap.size (by kernel_rfl) (by kernel_rfl) ?_
            repeat (
              with_reducible refine wpQuiet_step (fun K hK => ?_)
              go_simp
              refine hK _ ?_
              clear hK K)
            with_reducible refine wpQuiet_step (fun K hK => ?_)
            go_simp
            apply Exists.intro
            refine ⟨fun p => ?_, hK _ ?_⟩
            exact (HI.out _).mono fun e w5 ⟨he, hb⟩ => ⟨he, p.step (Nat.le_refl _) hb⟩
            clear hK K
            repeat (
              with_reducible refine wpQuiet_step (fun K hK => ?_)
              go_simp
              refine hK _ ?_
              clear hK K)
            with_reducible refine wpQuiet_step (fun K hK => ?_)
            go_simp
            apply Exists.intro
            refine ⟨fun p => ?_, hK _ ?_⟩
            exact (HJ.out _).mono fun e w5 ⟨he, hb⟩ => ⟨he, p.step (Nat.le_refl _) hb⟩
            clear hK K
            repeat (
              with_reducible refine wpQuiet_step (fun K hK => ?_)
              go_simp
              refine hK _ ?_
              clear hK K)
            refine wpQuiet_nil ?_
            rintro _ ⟨p, rfl⟩
            go_wp2_with fail
            refine (HF1.out p.x p.h).mono ?_
            rintro e w2 ⟨rfl, hb2⟩
            have Hb2 := Lib.hid (bthen (bthen Hb1.out p.h) hb2)
            have Hb3 := Lib.hid (bthen (bthen (bthen hb.out Hb1'.out) p.h) hb2); clear hb2
            rw [Ho.out]
            go_wp2_with fail
            go_ret
            exact ⟨by rw [Hno.out]; rfl, Hb2.out⟩
        · have Hno : Hid (tf (Dist Cb.id Cb.nm l) = false) := tf_no (dist_id Hx.out Hy.out (of_decide_eq_true hd))
          go_wp2_with fail
          rw [Hw1.out]
          refine wp_region_below w1.heap.size (by kernel_rfl) (by kernel_rfl) ?_
          repeat (
            with_reducible refine wpQuiet_step (fun K hK => ?_)
            go_simp
            refine hK _ ?_
            clear hK K)
          with_reducible refine wpQuiet_step (fun K hK => ?_)
          go_simp
          apply Exists.intro
          refine ⟨fun p => ?_, hK _ ?_⟩
          exact (HI.out _).mono fun e w5 ⟨he, hb⟩ => ⟨he, p.step (Nat.le_refl _) hb⟩
          clear hK K
          repeat (
            with_reducible refine wpQuiet_step (fun K hK => ?_)
            go_simp
            refine hK _ ?_
            clear hK K)
          with_reducible refine wpQuiet_step (fun K hK => ?_)
          go_simp
          apply Exists.intro
          refine ⟨fun p => ?_, hK _ ?_⟩
          exact (HJ.out _).mono fun e w5 ⟨he, hb⟩ => ⟨he, p.step (Nat.le_refl _) hb⟩
          clear hK K
          repeat (
            with_reducible refine wpQuiet_step (fun K hK => ?_)
            go_simp
            refine hK _ ?_
            clear hK K)
          refine wpQuiet_nil ?_
          rintro _ ⟨p, rfl⟩
          go_wp2_with fail
          go_ret
          exact ⟨by rw [Hno.out]; rfl, bthen Hb1.out p.h⟩
    · have Hyes : Hid (tf (Dist Cb.id Cb.nm l) = true) := tf_yes fun i hi => hall.out i (by omega)
      go_wp2_with fail
      go_ret
      exact ⟨by rw [Hyes.out]; rfl, Hbw.out⟩
end Go.Proofs.YthmjgaekcghonaaGreatDoor

/-
  Contracts of package schema's rightColumns, rightKey, RightTable and Right.
-/
namespace Go.Proofs.YthmjgaekcghonaaGreatDoor
open Go.RowKit

set_option maxRecDepth 100000 in
theorem rcols1_any (c : Cb) (b : Nat) (nx : Int) (w : World) (ht : UTab w) (hw : WfC c) (hc : w.cell? ⟨b, 3, none⟩ = some (.int .i64 nx)) :
    Calls Tryz.prog 81 #[CV c, .pointer (some ⟨b, 0, none⟩)] w fun e w' => e = .returned (.bool (rightC c && decide (c.id < nx))) ∧ Below w.heap.size w w' := by
  have hlt := World.block_lt_of_cell? w ⟨b, 3, none⟩ hc
  have hk := Lib.hid (keep_alloc hc (.cells (fC c).toArray 63)); clear hc
  have hb0 := Lib.hid (below_one w (.cells (fC c).toArray 63))
  have HB := Lib.hid (BlkN.new w _ (fC c) 63 rfl)
  have HR := Lib.hid (rcol_any c _ (ht.alloc (.cells (fC c).toArray 63)) hw); clear ht hw
  generalize rightC c = r at HR
  cases r
  all_goals
    go_enter Tryz.func81, Tryz.ntmps81
    go_wp2_with fail
    refine HR.out.mono ?_
    rintro e w1 ⟨rfl, hb1⟩
    have Hb1 := Lib.hid (bthen hb0.out hb1)
    have HK := Lib.hid (HB.out.below hb1 (by simp))
    have hn : w1.cell? ⟨b, 3, none⟩ = some (.int .i64 nx) := (hb1.cell (by simp; exact Nat.lt_succ_of_lt hlt)).trans hk.out
    clear hb1
    obtain ⟨c0, _⟩ := HK.out.col
    go_wp2_with fail
    go_ret
    exact ⟨by simp, Hb1.out⟩
theorem entersRCols : ∀ args w, (callFunc 81 args).run Tryz.prog w = .ok (.enter 81 args) w := Go.Proofs.enters_of Tryz.func81 (by kernel_rfl) rfl
set_option maxRecDepth 100000 in
set_option maxHeartbeats 800000 in
theorem rcols_any (t : Tb) (w : World) (ht : UTab w) (hw : WfT t) (hA : TabAt w w.heap.size t) :
    Calls Tryz.prog 59 #[TV t] w fun e w' => e = .returned (.bool (rightCols t)) ∧ Below w.heap.size w w' := by
  have HW := Lib.hid hw; clear hw
  have hmf : ∀ (fn : Fn) (first cap : Array Value) (w : World), (Instr.makeFunc fn first cap).run Tryz.prog w = .ok (.func fn first cap) w := fun _ _ _ _ => rfl
  have hb0 := Lib.hid (below_one w (.cells (fT t).toArray 51))
  have HB := Lib.hid (BlkN.new w _ (fT t) 51 rfl)
  have HA := Lib.hid (RowAt.to hA hb0.out); clear hA
  have HT := Lib.hid (ht.alloc (.cells (fT t).toArray 51)); clear ht
  have Hv : Hid (rightCols t = ((t.cols.all fun c => rightC c && decide (c.id < t.nx)) && tf (Dist Cb.id Cb.nm t.cols))) := rfl
  have HC := Lib.hid (allC_any t.A t.cap t.cols 81 #[.pointer (some ⟨w.heap.size, 0, none⟩)] (fun c => rightC c && decide (c.id < t.nx)) _ HA.out HW.out.2.1 entersRCols
    (fun x hx w' hb' => rcols1_any x _ t.nx w' (HT.out.below hb' (Nat.le_refl _)) (HW.out.2.2.2 x hx) ((hb'.cell (by simp)).trans HB.out.tab.2.2.2.1)))
  have HD := Lib.hid (fun w' hA' => distC_any t.A t.cap t.cols w' hA' HW.out.2.1 HW.out.2.2.1)
  generalize (t.cols.all fun c => rightC c && decide (c.id < t.nx)) = r at HC Hv
  generalize tf (Dist Cb.id Cb.nm t.cols) = d at HD Hv
  cases r
  · go_enter Tryz.func59, Tryz.ntmps59
    go_wp2_with fail
    refine HC.out.mono ?_
    rintro e w1 ⟨rfl, hb1⟩
    have Hb1 := Lib.hid (bthen hb0.out hb1); clear hb1
    go_wp2_with fail
    go_ret
    exact ⟨by rw [Hv.out]; rfl, Hb1.out⟩
  · go_enter Tryz.func59, Tryz.ntmps59
    go_wp2_with fail
    refine HC.out.mono ?_
    rintro e w1 ⟨rfl, hb1⟩
    have Hb1 := Lib.hid (bthen hb0.out hb1)
    have HA1 := Lib.hid (RowAt.to HA.out hb1)
    have HK := Lib.hid (HB.out.below hb1 (by simp)); clear hb1
    obtain ⟨c0, c1, c2, c3, c4⟩ := HK.out.tab
    go_wp2_with fail
    refine (HD.out _ HA1.out).mono ?_
    rintro e w2 ⟨rfl, hb2⟩
    have Hb2 := Lib.hid (bthen Hb1.out hb2); clear hb2
    go_wp2_with fail
    go_ret
    exact ⟨by rw [Hv.out]; rfl, Hb2.out⟩
set_option maxRecDepth 100000 in
set_option maxHeartbeats 800000 in
theorem rkey_any (t : Tb) (w : World) (hw : WfT t) (hA : TabAt w w.heap.size t) :
    Calls Tryz.prog 60 #[TV t] w fun e w' => e = .returned (.bool (tf (keyOk t))) ∧ Below w.heap.size w w' := by
  have hb0 := Lib.hid (below_one w (.cells (fT t).toArray 51))
  have HB := Lib.hid (BlkN.new w _ (fT t) 51 rfl)
  have HA := Lib.hid (RowAt.to hA hb0.out); clear hA
  have HK := Lib.hid (skey_any t _ HA.out hw.2.1)
  have hlen := hw.2.1; clear hw
  cases ho : t.cols.findIdx? fun c => c.id == t.key with
  | none =>
    have Ho : Hid (fstV (t.cols.findIdx? fun c => c.id == t.key) = .tuple #[.int .i64 0, .bool false]) := by show _ = _; rw [ho]; rfl
    have Hno : Hid (tf (keyOk t) = false) := tf_no (by rintro ⟨i, c, h, _⟩; rw [ho] at h; cases h)
    clear ho
    rw [Ho.out] at HK
    go_enter Tryz.func60, Tryz.ntmps60
    go_wp2_with fail
    refine HK.out.mono ?_
    rintro e w1 ⟨rfl, hb1⟩
    have Hb1 := Lib.hid (bthen hb0.out hb1); clear hb1
    go_wp2_with fail
    go_ret
    exact ⟨by rw [Hno.out]; rfl, Hb1.out⟩
  | some k =>
    have Ho : Hid (fstV (t.cols.findIdx? fun c => c.id == t.key) = .tuple #[.int .i64 (k : Int), .bool true]) := by show _ = _; rw [ho]; rfl
    obtain ⟨c, hc, _⟩ := find_some ho
    have hkl := find_lt ho
    have Hyes : Hid (tf (keyOk t) = !c.nl) := by
      show _ = _
      apply bool_eq
      rw [tf_iff]
      constructor
      · rintro ⟨i, c', h, h2, h3⟩
        rw [ho] at h; cases h
        rw [hc] at h2; cases h2
        simp [h3]
      · intro h
        exact ⟨k, c, ho, hc, by simpa using h⟩
    have Hc := Lib.hid hc
    clear ho hc
    rw [Ho.out] at HK
    go_enter Tryz.func60, Tryz.ntmps60
    go_wp2_with fail
    refine HK.out.mono ?_
    rintro e w1 ⟨rfl, hb1⟩
    have Hb1 := Lib.hid (bthen hb0.out hb1)
    have HK1 := Lib.hid (HB.out.below hb1 (by simp))
    obtain ⟨c0, c1, c2, c3, c4⟩ := HK1.out.tab
    obtain ⟨b, off, hAe, hbB, d0, d1, d2, d3, d4, d5, d6, d7⟩ := ColsAt.get (RowAt.below HA.out hb1) k c Hc.out
    rw [hAe] at c4
    clear hb1
    go_wp2_with fail
    go_ret
    exact ⟨by rw [Hyes.out]; rfl, Hb1.out⟩
end Go.Proofs.YthmjgaekcghonaaGreatDoor

/-
  Contracts of package schema's RightTable and Right.
-/
namespace Go.Proofs.YthmjgaekcghonaaGreatDoor
open Go.RowKit

set_option maxRecDepth 100000 in
set_option maxHeartbeats 1600000 in
theorem rtab_any (t : Tb) (w : World) (ht : UTab w) (hw : WfT t) (hA : TabAt w w.heap.size t) :
    Calls Tryz.prog 31 #[TV t] w fun e w' => e = .returned (.bool (rightTab t)) ∧ Below w.heap.size w w' := by
  have hb0 := Lib.hid (below_one w (.cells (fT t).toArray 51))
  have HB := Lib.hid (BlkN.new w _ (fT t) 51 rfl)
  have HA := Lib.hid (RowAt.to hA hb0.out); clear hA
  have HT := Lib.hid (ht.alloc (.cells (fT t).toArray 51)); clear ht
  have HN := Lib.hid (fun w => nright_any t.nm w hw.1)
  have HC := Lib.hid (rcols_any t _ HT.out hw HA.out)
  have HK := Lib.hid (fun w' hA' => rkey_any t w' hw hA'); clear hw
  have Hv : Hid (rightTab t = (decide (0 ≤ t.id) && (rightN (bs t.nm) && (decide (t.nx ≤ 200) && (decide (1 ≤ (t.cols.length : Int)) && (decide ((t.cols.length : Int) ≤ 10) && (rightCols t && tf (keyOk t)))))))) := rfl
  generalize h1 : decide (0 ≤ t.id) = b1 at Hv
  generalize rightN (bs t.nm) = b2 at Hv HN
  generalize h3 : decide (t.nx ≤ 200) = b3 at Hv
  generalize h4 : decide (1 ≤ (t.cols.length : Int)) = b4 at Hv
  generalize h5 : decide ((t.cols.length : Int) ≤ 10) = b5 at Hv
  generalize rightCols t = b6 at Hv HC
  generalize tf (keyOk t) = b7 at Hv HK
  cases b1
  · go_enter Tryz.func31, Tryz.ntmps31
    go_wp2_with fail
    go_ret
    exact ⟨by rw [Hv.out]; rfl, by go_grown⟩
  cases b2
  · go_enter Tryz.func31, Tryz.ntmps31
    go_wp2_with fail
    refine (HN.out _).mono ?_
    rintro e w1 ⟨rfl, rfl⟩
    go_wp2_with fail
    go_ret
    exact ⟨by rw [Hv.out]; rfl, by go_grown⟩
  cases b3
  · go_enter Tryz.func31, Tryz.ntmps31
    go_wp2_with fail
    refine (HN.out _).mono ?_
    rintro e w1 ⟨rfl, rfl⟩
    go_wp2_with fail
    go_ret
    exact ⟨by rw [Hv.out]; rfl, by go_grown⟩
  cases b4
  · go_enter Tryz.func31, Tryz.ntmps31
    go_wp2_with fail
    refine (HN.out _).mono ?_
    rintro e w1 ⟨rfl, rfl⟩
    go_wp2_with fail
    go_ret
    exact ⟨by rw [Hv.out]; rfl, by go_grown⟩
  cases b5
  · go_enter Tryz.func31, Tryz.ntmps31
    go_wp2_with fail
    refine (HN.out _).mono ?_
    rintro e w1 ⟨rfl, rfl⟩
    go_wp2_with fail
    go_ret
    exact ⟨by rw [Hv.out]; rfl, by go_grown⟩
  cases b6
  · go_enter Tryz.func31, Tryz.ntmps31
    go_wp2_with fail
    refine (HN.out _).mono ?_
    rintro e w1 ⟨rfl, rfl⟩
    go_wp2_with fail
    refine HC.out.mono ?_
    rintro e w1 ⟨rfl, hb1⟩
    have Hb1 := Lib.hid (bthen hb0.out hb1)
    have HA1 := Lib.hid (RowAt.to HA.out hb1)
    have HK1 := Lib.hid (HB.out.below hb1 (by simp)); clear hb1
    obtain ⟨c0, c1, c2, c3, c4⟩ := HK1.out.tab
    go_wp2_with fail
    go_ret
    exact ⟨by rw [Hv.out]; rfl, Hb1.out⟩
  · go_enter Tryz.func31, Tryz.ntmps31
    go_wp2_with fail
    refine (HN.out _).mono ?_
    rintro e w1 ⟨rfl, rfl⟩
    go_wp2_with fail
    refine HC.out.mono ?_
    rintro e w1 ⟨rfl, hb1⟩
    have Hb1 := Lib.hid (bthen hb0.out hb1)
    have HA1 := Lib.hid (RowAt.to HA.out hb1)
    have HK1 := Lib.hid (HB.out.below hb1 (by simp)); clear hb1
    obtain ⟨c0, c1, c2, c3, c4⟩ := HK1.out.tab
    go_wp2_with fail
    refine (HK.out _ HA1.out).mono ?_
    rintro e w2 ⟨rfl, hb2⟩
    have Hb2 := Lib.hid (bthen Hb1.out hb2); clear hb2
    go_wp2_with fail
    go_ret
    exact ⟨by rw [Hv.out]; rfl, Hb2.out⟩
theorem entersRTab : ∀ args w, (callFunc 31 args).run Tryz.prog w = .ok (.enter 31 args) w := Go.Proofs.enters_of Tryz.func31 (by kernel_rfl) rfl
set_option maxRecDepth 100000 in
set_option maxHeartbeats 1600000 in
theorem rcat_any (A : Option Addr) (cp : Nat) (l : List Tb) (w : World) (ht : UTab w) (hA : TabsAt w w.heap.size A l) (hw : ∀ t ∈ l, WfT t) (hl : l.length ≤ 1000000) (hcp : l.length ≤ cp) :
    Calls Tryz.prog 17 #[.agg #[.slice A l.length cp]] w fun e w' => e = .returned (.bool (rightCat l)) ∧ Below w.heap.size w w' := by
  have hb0 := Lib.hid (below_one w (.cells #[.slice A l.length cp] 24))
  have HB : Hid (BlkN (w.alloc (.cells #[.slice A l.length cp] 24)) w.heap.size [.slice A l.length cp]) := BlkN.new w _ [.slice A l.length cp] 24 rfl
  have HA := Lib.hid (hA.to hb0.out); clear hA
  have HT := Lib.hid (ht.alloc (.cells #[.slice A l.length cp] 24)); clear ht
  have HC := Lib.hid (allT_any A cp l 31 #[] rightTab _ HA.out hl entersRTab
    (fun x hx w' hb' => by
      rw [show (#[TV x] ++ (#[] : Array Value)) = #[TV x] by simp]
      exact rtab_any x w' (HT.out.below hb' (Nat.le_refl _)) (hw x hx) ((HA.out.to hb').2 x hx)))
  have HD := Lib.hid (fun w' hA' => distT_any A cp l w' hA' hl hcp); clear hw
  have Hv : Hid (rightCat l = (decide ((l.length : Int) ≤ 6) && (l.all rightTab && tf (Dist Tb.id Tb.nm l)))) := rfl
  generalize h1 : decide ((l.length : Int) ≤ 6) = b1 at Hv
  generalize l.all rightTab = b2 at Hv HC
  generalize tf (Dist Tb.id Tb.nm l) = b3 at Hv HD
  cases b1
  · go_enter Tryz.func17, Tryz.ntmps17
    go_wp2_with fail
    go_ret
    exact ⟨by rw [Hv.out]; rfl, by go_grown⟩
  cases b2
  · go_enter Tryz.func17, Tryz.ntmps17
    go_wp2_with fail
    refine HC.out.mono ?_
    rintro e w1 ⟨rfl, hb1⟩
    have Hb1 := Lib.hid (bthen hb0.out hb1)
    have HA1 := Lib.hid (HA.out.to hb1)
    have HK1 := Lib.hid (HB.out.below hb1 (by simp)); clear hb1
    have c0 := HK1.out.one
    go_wp2_with fail
    go_ret
    exact ⟨by rw [Hv.out]; rfl, Hb1.out⟩
  · go_enter Tryz.func17, Tryz.ntmps17
    go_wp2_with fail
    refine HC.out.mono ?_
    rintro e w1 ⟨rfl, hb1⟩
    have Hb1 := Lib.hid (bthen hb0.out hb1)
    have HA1 := Lib.hid (HA.out.to hb1)
    have HK1 := Lib.hid (HB.out.below hb1 (by simp)); clear hb1
    have c0 := HK1.out.one
    go_wp2_with fail
    refine (HD.out _ HA1.out).mono ?_
    rintro e w2 ⟨rfl, hb2⟩
    have Hb2 := Lib.hid (bthen Hb1.out hb2); clear hb2
    go_wp2_with fail
    go_ret
    exact ⟨by rw [Hv.out]; rfl, Hb2.out⟩
end Go.Proofs.YthmjgaekcghonaaGreatDoor

/-
  Contract of package ddl's Apply.
-/
namespace Go.Proofs.YthmjgaekcghonaaGreatDoor
open Go.RowKit

/-- the sizes of a change -/
def WfD (d : Dp) : Prop := d.tb.size ≤ 1000000 ∧ d.co.size ≤ 1000000 ∧ d.to.size ≤ 1000000 ∧ d.key.size ≤ 1000000 ∧ d.cols.length ≤ 1000000 ∧ (-9223372036854775808 ≤ d.dn ∧ d.dn < 9223372036854775808) ∧ ∀ c ∈ d.cols, WfC c
/-- the catalog behind a change, or none -/
noncomputable def applyO (L : List Tp) (d : Dp) (id : Int) : List Tp := if applyE L d id = 0 then applyR L d id else []
theorem applyE_chg {L : List Tp} {d : Dp} {id : Int} (h1 : RightL L) (h2 : plainD d = true) (h3 : 0 ≤ id) : applyE L d id = chgE L d id := by
  unfold applyE chgE
  rw [if_pos ⟨tf_iff.2 h1, h2, h3⟩]; rfl
theorem applyE_arg {L : List Tp} {d : Dp} {id : Int} (h : ¬ (RightL L ∧ plainD d = true ∧ 0 ≤ id)) : applyE L d id = 2 := by
  unfold applyE
  rw [if_neg fun e => h ⟨tf_iff.1 e.1, e.2⟩]
theorem box_ap (w : World) (v : Value) (d : Db) : ∃ w0, ((w.alloc (.cells #[v] 24)).alloc (.cells #[.int .i64 d.p.op, .string d.p.tb, .string d.p.co, .string d.p.to, .string d.p.key, .int .i64 d.p.tk, .int .i64 d.p.tm, .bool d.p.nl, .int .i64 d.p.dk, .int .i64 d.p.dn, .string d.p.ds, .slice d.A d.p.cols.length d.cap] 31)).alloc (.cells #[.slice none 0 0] 24) = w0 ∧
    Below w.heap.size w w0 ∧ w0.cell? ⟨w.heap.size, 0, none⟩ = some v ∧ BlkN w0 (w.heap.size + 1) (fD d) ∧ w0.heap[w.heap.size + 2]? = some (.cells #[.slice none 0 0] 24 (0, 0)) ∧ w0.heap.size = w.heap.size + 3 :=
  ⟨_, rfl, (below_two w _ _).alloc (by simp; omega) _, keep_alloc (keep_alloc (by simp) _) _, (BlkN.new _ _ (fD d) _ (by simp)).alloc (by simp) _, by
    have := heap_alloc_new ((w.alloc (.cells #[v] 24)).alloc (.cells (fD d).toArray 31)) (.cells #[.slice none 0 0] 24)
    have e : ((w.alloc (.cells #[v] 24)).alloc (.cells (fD d).toArray 31)).heap.size = w.heap.size + 2 := by simp
    rw [e] at this
    exact this, by simp⟩
/-- a block of one cell holds no row of structs -/
theorem RowAt.put {α : Type} {m : Nat} {f : α → List Value} {w : World} {B b0 : Nat} {x : Value} {T : TypeId} {A : Option Addr} {l : List α} (h : RowAt m f w B A l) (hb : w.heap[b0]? = some (.cells #[x] T (0, 0))) (h2 : ∀ y : α, ∃ v, (f y)[1]? = some v) (u : Value) :
    RowAt m f (w.setCell ⟨b0, 0, none⟩ u) B A l := fun hl => by
  obtain ⟨b, off, rfl, h3, h4⟩ := h hl
  refine ⟨b, off, rfl, h3, fun j y hj i v hv => ?_⟩
  have hne : b ≠ b0 := fun e => by
    subst e
    obtain ⟨v1, hv1⟩ := h2 y
    have h5 := h4 j y hj 1 v1 hv1
    rw [cell_of_row w b _ _ _ (0, 0) hb] at h5
    have := (Array.getElem?_eq_some_iff.1 h5).1
    simp at this
  exact (Off.set w b0 0 u).keep (h4 j y hj i v hv) hne
theorem CatAt.put {w : World} {b0 : Nat} {x : Value} {T : TypeId} {A : Option Addr} {cap : Nat} {l : List Tb} (h : CatAt w A cap l) (hb : w.heap[b0]? = some (.cells #[x] T (0, 0))) (u : Value) : CatAt (w.setCell ⟨b0, 0, none⟩ u) A cap l := by
  have hs := (Off.set w b0 0 u).size
  exact ⟨⟨(h.1.1.put hb (fun y => ⟨_, rfl⟩) u).more hs, fun t ht => RowAt.more (RowAt.put (h.1.2 t ht) hb (fun y => ⟨_, rfl⟩) u) hs⟩, h.2⟩
/-- the base of the columns can be told below the heap's size -/
theorem OwnCat.low {w : World} {B Bc : Nat} {v : Value} {l : List Tb} (h : OwnCat w B Bc v l) (hB : B ≤ w.heap.size) (hc : ∀ t ∈ l, 0 < t.cols.length) : ∃ Bc', OwnCat w B Bc' v l ∧ Bc' ≤ w.heap.size := by
  cases l with
  | nil => exact ⟨w.heap.size, ⟨h.row, fun k hk => (h.row.lt k hk).2, hB, fun t ht => by simp at ht, h.apart⟩, Nat.le_refl _⟩
  | cons t r =>
    obtain ⟨g, cap, _, h1, h2, _⟩ := OwnR.shape (h.cols t List.mem_cons_self) (hc t List.mem_cons_self)
    exact ⟨Bc, h, by omega⟩
set_option maxRecDepth 100000 in
set_option maxHeartbeats 3000000 in
theorem apply_any (A : Option Addr) (cp : Nat) (l : List Tb) (d : Db) (id : Int) (w : World) (ht : UTab w) (hA : TabsAt w w.heap.size A l) (hw : ∀ t ∈ l, WfT t) (hl : l.length ≤ 1000000) (hcp : l.length ≤ cp) (hD : DdlAt w w.heap.size d) (hd : WfD d.p) :
    Calls Tryz.prog 8 #[.agg #[.slice A l.length cp], DV d, .int .i64 id] w fun e w' => ∃ A' cap' l', e = .returned (.tuple #[.agg #[.slice A' l'.length cap'], .int .i64 (applyE (l.map Tb.p) d.p id)]) ∧ CatAt w' A' cap' l' ∧
      l'.map Tb.p = applyO (l.map Tb.p) d.p id ∧ Below w.heap.size w w' := by
  obtain ⟨w0, hw0, hb0, hc0, hX, hr0, hs0⟩ := box_ap w (.slice A l.length cp) d
  have Hw0 := Lib.hid hw0; clear hw0
  have Hb0 := Lib.hid hb0
  have HA0 := Lib.hid (hA.to hb0); clear hA
  have HD0 := Lib.hid (hD.to hb0); clear hD
  have HT := Lib.hid (ht.below hb0 (Nat.le_refl _)); clear ht hb0
  have HX := Lib.hid hX; clear hX
  have Hr0 := Lib.hid hr0; clear hr0
  have Hs0 := Lib.hid hs0; clear hs0
  have Hc0 := Lib.hid hc0; clear hc0
  have HW := Lib.hid hw; clear hw
  have Hd := Lib.hid hd; clear hd
  have HRt := Lib.hid (rcat_any A cp l w0 HT.out HA0.out HW.out hl hcp)
  rw [← Hw0.out] at HRt
  have HPl := Lib.hid (fun w' hD' => dplain_any d w' hD' Hd.out.2.2.2.2.1)
  have Hri := Lib.hid (rightL_iff l)
  have H9 := Lib.hid (fun h => applyE_arg (L := l.map Tb.p) (d := d.p) (id := id) h)
  have H8 := Lib.hid (fun h1 h2 h3 => applyE_chg (L := l.map Tb.p) (d := d.p) (id := id) h1 h2 h3)
  have Hbad : Hid (∀ (w' : World), applyE (l.map Tb.p) d.p id ≠ 0 → Below w.heap.size w w' → ∃ A' cap' l', (Ending.returned (.tuple #[.agg #[.slice none 0 0], .int .i64 (applyE (l.map Tb.p) d.p id)]) : Ending) = .returned (.tuple #[.agg #[.slice A' l'.length cap'], .int .i64 (applyE (l.map Tb.p) d.p id)]) ∧ CatAt w' A' cap' l' ∧
      l'.map Tb.p = applyO (l.map Tb.p) d.p id ∧ Below w.heap.size w w') := fun w' h hb => ⟨none, 0, [], rfl, ⟨⟨fun h => absurd h (by simp), by simp⟩, Nat.le_refl _, by simp⟩, by unfold applyO; rw [if_neg h]; rfl, hb⟩
  have HRes : Hid (∀ X, Below w0.heap.size w0 X → X.cell? ⟨w.heap.size + 2, 0, none⟩ = some (.slice none 0 0) ∧ X.frozen? ⟨w.heap.size + 2, 0, none⟩ = false) := fun X hX => by
    have h1 := (hX.block (w.heap.size + 2) (by have := Hs0.out; omega)).trans Hr0.out
    exact ⟨by rw [cell_of_row X _ 0 _ _ (0, 0) h1]; rfl, frozen_of_row X _ 0 _ _ h1⟩
  have Hput : Hid (∀ (X : World) (v : Value), Below w.heap.size w X → Below w.heap.size w (X.setCell ⟨w.heap.size + 2, 0, none⟩ v)) := fun X v hX => bput hX (by omega) 0 v
  generalize hE : applyE (l.map Tb.p) d.p id = E at Hbad H9 H8 ⊢
  generalize hOo : applyO (l.map Tb.p) d.p id = O at Hbad ⊢
  have HE := Lib.hid hE
  have HOo := Lib.hid hOo
  clear hE hOo
  cases hb1 : rightCat l
  · have He : Hid (E = 2) := H9.out fun h => by
      have := Hri.out.2 h.1
      rw [hb1] at this; cases this
    rw [hb1] at HRt
    clear hb1 Hri H9 H8
    go_enter Tryz.func8, Tryz.ntmps8
    go_wp2_with fail
    refine HRt.out.mono ?_
    rintro e w1 ⟨rfl, hbw1⟩
    rw [Hw0.out] at hbw1
    have Hb1 := Lib.hid (bthen Hb0.out hbw1)
    obtain ⟨z0, z1⟩ := HRes.out w1 hbw1
    have Hz0 := Lib.hid z0
    clear hbw1
    have HB := Lib.hid (Hbad.out (w1.setCell ⟨w.heap.size + 2, 0, none⟩ (.slice none 0 0)) (by rw [He.out]; decide) (Hput.out _ _ Hb1.out))
    go_wp2_with fail
    refine bodyPost_ret (results_c2 rfl _ _ rfl (World.cell?_setCell_same _ _ _ Hz0.out)) rfl ?_
    rw [He.out] at HB ⊢
    exact HB.out
  rw [hb1] at HRt
  have HRl := Lib.hid (Hri.out.1 hb1)
  clear hb1 Hri
  cases hb2 : plainD d.p
  · have He : Hid (E = 2) := H9.out fun h => by rw [hb2] at h; cases h.2.1
    rw [hb2] at HPl
    clear hb2 H9 H8
    go_enter Tryz.func8, Tryz.ntmps8
    go_wp2_with fail
    refine HRt.out.mono ?_
    rintro e w1 ⟨rfl, hbw1⟩
    rw [Hw0.out] at hbw1
    have Hb1 := Lib.hid hbw1
    clear hbw1
    obtain ⟨x0, x1, x2, x3, x4, x5, x6, x7, x8, x9, x10, x11⟩ := (HX.out.below Hb1.out (by have := Hs0.out; omega)).ddl
    go_wp2_with fail
    refine (HPl.out w1 (HD0.out.to Hb1.out)).mono ?_
    rintro e w2 ⟨rfl, hbw2⟩
    have Hb2 := Lib.hid (bthen Hb1.out hbw2)
    clear hbw2
    obtain ⟨z0, z1⟩ := HRes.out w2 Hb2.out
    have Hz0 := Lib.hid z0
    have HB := Lib.hid (Hbad.out (w2.setCell ⟨w.heap.size + 2, 0, none⟩ (.slice none 0 0)) (by rw [He.out]; decide) (Hput.out _ _ (bthen Hb0.out Hb2.out)))
    go_wp2_with fail
    refine bodyPost_ret (results_c2 rfl _ _ rfl (World.cell?_setCell_same _ _ _ Hz0.out)) rfl ?_
    rw [He.out] at HB ⊢
    exact HB.out
  rw [hb2] at HPl
  have Hpl := Lib.hid hb2
  clear hb2
  by_cases hid : id < 0
  · have He : Hid (E = 2) := H9.out fun h => by omega
    have hd3 : decide (id < 0) = true := by simp [hid]
    clear hid H9 H8
    go_enter Tryz.func8, Tryz.ntmps8
    go_wp2_with fail
    refine HRt.out.mono ?_
    rintro e w1 ⟨rfl, hbw1⟩
    rw [Hw0.out] at hbw1
    have Hb1 := Lib.hid hbw1
    clear hbw1
    obtain ⟨x0, x1, x2, x3, x4, x5, x6, x7, x8, x9, x10, x11⟩ := (HX.out.below Hb1.out (by have := Hs0.out; omega)).ddl
    go_wp2_with fail
    refine (HPl.out w1 (HD0.out.to Hb1.out)).mono ?_
    rintro e w2 ⟨rfl, hbw2⟩
    have Hb2 := Lib.hid (bthen Hb1.out hbw2)
    clear hbw2
    obtain ⟨z0, z1⟩ := HRes.out w2 Hb2.out
    have Hz0 := Lib.hid z0
    have HB := Lib.hid (Hbad.out (w2.setCell ⟨w.heap.size + 2, 0, none⟩ (.slice none 0 0)) (by rw [He.out]; decide) (Hput.out _ _ (bthen Hb0.out Hb2.out)))
    go_wp2_with fail
    refine bodyPost_ret (results_c2 rfl _ _ rfl (World.cell?_setCell_same _ _ _ Hz0.out)) rfl ?_
    rw [He.out] at HB ⊢
    exact HB.out
  have hd3 : decide (id < 0) = false := by simp; omega
  have He : Hid (E = chgE (l.map Tb.p) d.p id) := H8.out HRl.out Hpl.out (by omega)
  clear hid H9 H8
  have Hop := Lib.hid (plainD_op Hpl.out)
  go_enter Tryz.func8, Tryz.ntmps8
  go_wp2_with fail
  refine HRt.out.mono ?_
  rintro e w1 ⟨rfl, hbw1⟩
  rw [Hw0.out] at hbw1
  have Hb1 := Lib.hid hbw1
  clear hbw1
  obtain ⟨x0, x1, x2, x3, x4, x5, x6, x7, x8, x9, x10, x11⟩ := (HX.out.below Hb1.out (by have := Hs0.out; omega)).ddl
  go_wp2_with fail
  refine (HPl.out w1 (HD0.out.to Hb1.out)).mono ?_
  rintro e w2 ⟨rfl, hbw2⟩
  have Hb2 := Lib.hid (bthen Hb1.out hbw2)
  clear hbw2 x0 x1 x2 x3 x4 x5 x6 x7 x8 x9 x10 x11
  have c0 := (Hb2.out.cell (p := ⟨w.heap.size, 0, none⟩) (by have := Hs0.out; show w.heap.size < _; omega)).trans Hc0.out
  have HCl := Lib.hid (clone9_any A cp l w2 (HA0.out.to Hb2.out) hl (fun t ht => (HW.out t ht).2.1))
  go_wp2_with fail
  refine HCl.out.mono ?_
  rintro e w3 ⟨A', cap', l', Bc, he, hO3, hp3, hlen, hbw3⟩
  rw [← hlen] at he hO3
  subst he
  have Hb3 := Lib.hid (bthen Hb2.out hbw3)
  clear c0
  obtain ⟨w4, hw4, hb4, hc4, hs4⟩ := box_one' w3 (.slice A' l'.length cap') 24
  have Hbx4 : Hid (w4.heap[w3.heap.size]? = some (.cells #[.slice A' l'.length cap'] 24 (0, 0))) := by rw [← hw4]; exact heap_alloc_new w3 _
  have Hw4 := Lib.hid hw4
  have Hb4 := Lib.hid (bthen Hb3.out hb4)
  have Hin := Lib.hid (fun k hk => hO3.lt k hk)
  obtain ⟨Bc4, hO4, hBc4⟩ := (hO3.below hb4).low (Nat.le_trans hbw3.size hb4.size) (fun t ht => by
    have h1 : t.p ∈ l.map Tb.p := by rw [← hp3]; exact List.mem_map.2 ⟨t, ht, rfl⟩
    exact (HRl.out.2.1 t.p h1).2.2.2.1)
  have HO4 := Lib.hid hO4
  have HBcw := Lib.hid hBc4
  clear hO4 hBc4
  have Hsz3 := Lib.hid hbw3.size
  have Hb24 := Lib.hid (bthen hbw3 hb4)
  have Hsz4 := Lib.hid hs4
  have H64 : Hid (∀ t ∈ l', W64 t.cols) := fun t ht => by
    have h1 : t.p ∈ l.map Tb.p := by rw [← hp3]; exact List.mem_map.2 ⟨t, ht, rfl⟩
    obtain ⟨u, hu, e⟩ := List.mem_map.1 h1
    have e2 : u.cols = t.cols := congrArg Tp.cols e
    rw [← e2]
    intro c hc
    exact ((HW.out u hu).2.2.2 c hc).2
  have Hp3 := Lib.hid hp3
  clear hw4 hb4 hc4 hs4 hO3 hp3 hlen hbw3
  have HCh := Lib.hid (change_any w3.heap.size A' cap' l' d id w4 w2.heap.size Bc4 (HT.out.below Hb4.out (Nat.le_refl _)) HO4.out Hbx4.out (fun h => by have := (Hin.out _ h).2; omega) (HD0.out.to Hb4.out) HBcw.out (by rw [Hp3.out]; exact HRl.out) H64.out Hop.out Hd.out.1 Hd.out.2.1 Hd.out.2.2.1 (fun c hc => (Hd.out.2.2.2.2.2.2 c hc).1))
  rw [Hp3.out, ← He.out] at HCh
  rw [← Hw4.out] at HCh
  obtain ⟨x0, x1, x2, x3, x4, x5, x6, x7, x8, x9, x10, x11⟩ := (HX.out.below Hb3.out (by have := Hs0.out; omega)).ddl
  have k0 := fun o => keep_alloc x0 o
  have k1 := fun o => keep_alloc x1 o
  have k2 := fun o => keep_alloc x2 o
  have k3 := fun o => keep_alloc x3 o
  have k4 := fun o => keep_alloc x4 o
  have k5 := fun o => keep_alloc x5 o
  have k6 := fun o => keep_alloc x6 o
  have k7 := fun o => keep_alloc x7 o
  have k8 := fun o => keep_alloc x8 o
  have k9 := fun o => keep_alloc x9 o
  have k10 := fun o => keep_alloc x10 o
  have k11 := fun o => keep_alloc x11 o
  go_wp2_with fail
  refine HCh.out.mono ?_
  rintro e w5 ⟨rfl, hof, hok⟩
  rw [Hw4.out] at hof
  clear x0 x1 x2 x3 x4 x5 x6 x7 x8 x9 x10 x11 k0 k1 k2 k3 k4 k5 k6 k7 k8 k9 k10 k11
  have Hof := Lib.hid hof
  have Hok := Lib.hid hok
  clear hof hok
  have Hb5 : Hid (Below w2.heap.size w2 w5) := by
    have h1 : Below w2.heap.size w4 w5 := Hof.out.below (fun x _ e => by
      rcases e with e | e
      · exact (Hin.out x e).1
      · have := Hsz3.out; omega) (by have := Hsz3.out; have := Hsz4.out; omega)
    exact Hb24.out.trans h1
  have Hb5w : Hid (Below w0.heap.size w0 w5) := bthen Hb2.out Hb5.out
  obtain ⟨z0, z1⟩ := HRes.out w5 Hb5w.out
  have Hz0 := Lib.hid z0
  by_cases hE0 : E = 0
  · obtain ⟨A6, cap6, l6, hc6, hcat, hl6⟩ := Hok.out hE0
    have HOr : Hid (O = applyR (l.map Tb.p) d.p id) := by show _ = _; rw [← HOo.out]; unfold applyO; rw [HE.out, if_pos hE0]
    have hq : (E == 0) = true := by rw [beq_iff_eq]; exact hE0
    have hq2 : (E != 0) = false := by rw [bne, hq]; rfl
    have HE0 := Lib.hid hE0
    have Hcat := Lib.hid hcat
    have Hl6 := Lib.hid hl6
    have Hne : Hid (CatAt (w5.setCell ⟨w.heap.size + 2, 0, none⟩ (.slice A6 l6.length cap6)) A6 cap6 l6) := hcat.put ((Hb5w.out.block (w.heap.size + 2) (by have := Hs0.out; omega)).trans Hr0.out) _
    have HbE := Lib.hid (Hput.out w5 (.slice A6 l6.length cap6) (bthen Hb0.out Hb5w.out))
    clear hE0 hcat hl6
    go_wp2_with fail
    refine bodyPost_ret (results_c2 rfl _ _ rfl (World.cell?_setCell_same _ _ _ Hz0.out)) rfl ?_
    exact ⟨A6, cap6, l6, by rw [HE0.out]; rfl, Hne.out, by rw [Hl6.out, HOr.out], HbE.out⟩
  · have hq : (E == 0) = false := by rw [beq_eq_false_iff_ne]; exact hE0
    have hq2 : (E != 0) = true := by rw [bne, hq]; rfl
    have HB := Lib.hid (Hbad.out (w5.setCell ⟨w.heap.size + 2, 0, none⟩ (.slice none 0 0)) hE0 (Hput.out _ _ (bthen Hb0.out Hb5w.out)))
    clear hE0
    go_wp2_with fail
    refine bodyPost_ret (results_c2 rfl _ _ rfl (World.cell?_setCell_same _ _ _ Hz0.out)) rfl ?_
    exact HB.out
end Go.Proofs.YthmjgaekcghonaaGreatDoor

/-
  Contracts of law09's Few, FewAll and column.
-/
namespace Go.Proofs.YthmjgaekcghonaaGreatDoor
open Go.RowKit

theorem fewD_iff {d : Dp} : fewD d = true ↔ d.tb.size + d.co.size + d.to.size + d.key.size + d.ds.size ≤ 600 ∧ fewT ⟨0, ByteArray.empty, 0, 0, none, 0, d.cols⟩ = true := by
  unfold fewD
  rw [Bool.and_eq_true, decide_eq_true_iff]
  constructor
  · rintro ⟨h1, h2⟩; exact ⟨by omega, h2⟩
  · rintro ⟨h1, h2⟩; exact ⟨by omega, h2⟩
/-- a change that is tried is of the sizes that the contracts ask for -/
theorem WfD_of {w : World} {d : Db} (h : fewD d.p = true) (hi : InD w d) : WfD d.p := by
  obtain ⟨h1, h2⟩ := fewD_iff.1 h
  unfold fewT at h2
  simp only [Bool.and_eq_true, decide_eq_true_eq, List.all_eq_true, shortB_iff] at h2
  obtain ⟨_, _, _, _, _, _, _, _, hdn, _, _, _, _, hc⟩ := hi
  refine ⟨by omega, by omega, by omega, by omega, by omega, wf64 hdn, fun c hcm => ?_⟩
  have := h2.2.2 c hcm
  have hr := wf64 (hc c hcm).2.2.2.2.2.1
  exact ⟨by omega, hr.1, hr.2⟩
theorem fewT_A (c : List Cb) (A : Option Addr) (cap : Nat) : fewT ⟨0, ByteArray.empty, 0, 0, A, cap, c⟩ = fewT ⟨0, ByteArray.empty, 0, 0, none, 0, c⟩ := rfl
set_option maxRecDepth 100000 in
set_option maxHeartbeats 1000000 in
theorem few9_any (d : Db) (w : World) (hD : DdlAt w w.heap.size d) (hl : d.p.cols.length ≤ maxLen) (hs : SmD d.p) :
    Calls Tryz.prog 7 #[DV d] w fun e w' => e = .returned (.bool (fewD d.p)) ∧ Below w.heap.size w w' := by
  obtain ⟨w0, hw0, hb0, hX, hs0⟩ := box_ddl w d
  have Hw0 := Lib.hid hw0; clear hw0
  have Hb0 := Lib.hid hb0
  have HD := Lib.hid (hD.to hb0); clear hD hb0
  have HX := Lib.hid hX; clear hX
  have HF := Lib.hid (few8_any ⟨0, ByteArray.empty, 0, 0, d.A, d.cap, d.p.cols⟩ w0 HD.out hl)
  rw [fewT_A, ← Hw0.out] at HF
  obtain ⟨s1, s2, s3, s4, s5⟩ := hs
  have r1 : (d.p.tb.size : Int) ≤ 140737488351232 := by unfold reachBytes at s1; omega
  have r2 : (d.p.co.size : Int) ≤ 140737488351232 := by unfold reachBytes at s2; omega
  have r3 : (d.p.to.size : Int) ≤ 140737488351232 := by unfold reachBytes at s3; omega
  have r4 : (d.p.key.size : Int) ≤ 140737488351232 := by unfold reachBytes at s4; omega
  have r5 : (d.p.ds.size : Int) ≤ 140737488351232 := by unfold reachBytes at s5; omega
  clear s1 s2 s3 s4 s5
  have Hv : Hid (fewD d.p = (decide ((d.p.tb.size : Int) + d.p.co.size + d.p.to.size + d.p.key.size + d.p.ds.size ≤ 600) && fewT ⟨0, ByteArray.empty, 0, 0, none, 0, d.p.cols⟩)) := rfl
  generalize fewT ⟨0, ByteArray.empty, 0, 0, none, 0, d.p.cols⟩ = f at HF Hv
  cases h1 : decide ((d.p.tb.size : Int) + d.p.co.size + d.p.to.size + d.p.key.size + d.p.ds.size ≤ 600)
  · rw [h1] at Hv
    have h1' := of_decide_eq_false h1
    go_enter Tryz.func7, Tryz.ntmps7
    go_wp2_with fail
    rw [Hw0.out]
    go_ret
    exact ⟨by rw [Hv.out]; rfl, Hb0.out⟩
  · rw [h1] at Hv
    have h1' := of_decide_eq_true h1
    go_enter Tryz.func7, Tryz.ntmps7
    go_wp2_with fail
    refine HF.out.mono ?_
    rintro e w1 ⟨rfl, hb1⟩
    rw [Hw0.out] at hb1
    have Hb1 := Lib.hid (bthen Hb0.out hb1); clear hb1
    go_wp2_with fail
    go_ret
    exact ⟨by rw [Hv.out]; rfl, Hb1.out⟩

theorem DdlsAt.get {w : World} {B : Nat} {A : Option Addr} {l : List Db} (h : DdlsAt w B A l) (k : Nat) (d : Db) (hk : l[k]? = some d) : ∃ b off, A = some ⟨b, off, none⟩ ∧ b < B ∧
    w.cell? ⟨b, off + k * 12, none⟩ = some (.int .i64 d.p.op) ∧ w.cell? ⟨b, off + k * 12 + 1, none⟩ = some (.string d.p.tb) ∧ w.cell? ⟨b, off + k * 12 + 2, none⟩ = some (.string d.p.co) ∧ w.cell? ⟨b, off + k * 12 + 3, none⟩ = some (.string d.p.to) ∧
    w.cell? ⟨b, off + k * 12 + 4, none⟩ = some (.string d.p.key) ∧ w.cell? ⟨b, off + k * 12 + 5, none⟩ = some (.int .i64 d.p.tk) ∧ w.cell? ⟨b, off + k * 12 + 6, none⟩ = some (.int .i64 d.p.tm) ∧ w.cell? ⟨b, off + k * 12 + 7, none⟩ = some (.bool d.p.nl) ∧
    w.cell? ⟨b, off + k * 12 + 8, none⟩ = some (.int .i64 d.p.dk) ∧ w.cell? ⟨b, off + k * 12 + 9, none⟩ = some (.int .i64 d.p.dn) ∧ w.cell? ⟨b, off + k * 12 + 10, none⟩ = some (.string d.p.ds) ∧ w.cell? ⟨b, off + k * 12 + 11, none⟩ = some (.slice d.A d.p.cols.length d.cap) := by
  obtain ⟨b, off, rfl, h1, h2⟩ := h.1 (by have := (List.getElem?_eq_some_iff.1 hk).1; omega)
  have := h2 k d hk
  exact ⟨b, off, rfl, h1, this 0 _ rfl, this 1 _ rfl, this 2 _ rfl, this 3 _ rfl, this 4 _ rfl, this 5 _ rfl, this 6 _ rfl, this 7 _ rfl, this 8 _ rfl, this 9 _ rfl, this 10 _ rfl, this 11 _ rfl⟩
/-- are changes tried? -/
def fewL (l : List Db) : Bool := decide ((l.length : Int) ≤ 20) && l.all fun d => fewD d.p
set_option maxRecDepth 100000 in
set_option maxHeartbeats 1600000 in
theorem fewl9_any (A : Option Addr) (cp : Nat) (l : List Db) (w : World) (hA : DdlsAt w w.heap.size A l) (hl : l.length ≤ maxLen) (hi : ∀ d ∈ l, d.p.cols.length ≤ maxLen ∧ SmD d.p) :
    Calls Tryz.prog 12 #[.slice A l.length cp] w fun e w' => e = .returned (.bool (fewL l)) ∧ Below w.heap.size w w' := by
  unfold maxLen at hl
  have HA := Lib.hid hA; clear hA
  have HI := Lib.hid hi; clear hi
  have Hv : Hid (fewL l = (decide ((l.length : Int) ≤ 20) && l.all fun d => fewD d.p)) := rfl
  have e1 : decide (20 < (l.length : Int)) = !decide ((l.length : Int) ≤ 20) := by apply bool_eq; simp
  generalize decide ((l.length : Int) ≤ 20) = b1 at Hv e1
  cases b1
  · replace e1 : decide (20 < (l.length : Int)) = true := e1
    go_enter Tryz.func12, Tryz.ntmps12
    go_wp2_with fail
    go_ret
    exact ⟨by rw [Hv.out]; rfl, Below.refl _ _⟩
  replace e1 : decide (20 < (l.length : Int)) = false := e1
  replace Hv : Hid (fewL l = l.all fun d => fewD d.p) := by show _ = _; rw [Hv.out]; simp
  go_enter Tryz.func12, Tryz.ntmps12
  go_wp2_with fail
  clear e1
  go_loopw [3] (fun i wr => ∃ k : Nat, k ≤ l.length ∧ i = .int .i64 k ∧ Hid (∀ j c, l[j]? = some c → j < k → fewD c.p = true) ∧ Hid (Below w.heap.size w wr)) (fun i _ => l.length - (intOf i).toNat)
  case atStart => exact ⟨0, by omega, rfl, fun j v _ h => absurd h (by omega), Below.refl _ _⟩
  case round =>
    obtain ⟨k, hk, rfl, hall, hb⟩ := hrel
    by_cases hlt : k < l.length
    · obtain ⟨x, hx⟩ : ∃ x, l[k]? = some x := ⟨l[k], by simp [hlt]⟩
      have Hx := Lib.hid hx
      have hi' := HI.out x (List.mem_of_getElem? hx)
      have HF := Lib.hid (few9_any x wr ((HA.out.to hb.out).2 x (List.mem_of_getElem? hx)) hi'.1 hi'.2)
      have hA' := HA.out
      obtain ⟨b, off, hAe, hbB, d0, d1, d2, d3, d4, d5, d6, d7, d8, d9, d10, d11⟩ := DdlsAt.get (l := l) ⟨RowAt.below hA'.1 hb.out, fun d hd => RowAt.below (hA'.2 d hd) hb.out⟩ k x hx
      subst hAe
      clear hx hi' hA'
      cases hp : fewD x.p
      · have Hno : Hid ((l.all fun d => fewD d.p) = false) := all_stop8 Hx.out hp
        rw [hp] at HF
        clear hp
        go_wp2_with fail
        refine HF.out.mono ?_
        rintro e w1 ⟨rfl, hb1⟩
        have Hb1 := Lib.hid (bthen hb.out hb1); clear hb1
        go_wp2_with fail
        go_ret
        exact ⟨by rw [Hv.out, Hno.out]; rfl, Hb1.out⟩
      · have Hall : Hid (∀ j c, l[j]? = some c → j < k + 1 → fewD c.p = true) := fun j y hj hk => by
          by_cases e : j = k
          · subst e
            rw [Hx.out] at hj
            cases hj
            exact hp
          · exact hall.out j y hj (by omega)
        rw [hp] at HF
        clear hp
        go_wp2_with fail
        refine HF.out.mono ?_
        rintro e w1 ⟨rfl, hb1⟩
        have Hb1 := Lib.hid (bthen hb.out hb1); clear hb1
        go_wp2_with fail
        go_roundw
        case rel => exact ⟨k + 1, by omega, by go_num, Hall.out, Hb1.out⟩
        case measure => simp [intOf]; omega
    · have Hyes : Hid ((l.all fun d => fewD d.p) = true) := all_at fun j x hj => hall.out j x hj (by have := (List.getElem?_eq_some_iff.1 hj).1; omega)
      go_wp2_with fail
      go_ret
      exact ⟨by rw [Hv.out, Hyes.out]; rfl, hb.out⟩
/-- the column of a number -/
def colN (t : Tb) (id : Int) : Option Nat := t.cols.findIdx? fun c => c.id == id
/-- its name, or none -/
def colNm (t : Tb) (id : Int) : ByteArray := match colN t id with
  | some k => match t.cols[k]? with
    | some c => c.nm
    | none => ⟨#[]⟩
  | none => ⟨#[]⟩
end Go.Proofs.YthmjgaekcghonaaGreatDoor

/-
  Contracts of slices.EqualFunc at tables and columns, of package schema's SameTable and Same, and of the document's own.
-/
namespace Go.Proofs.YthmjgaekcghonaaGreatDoor
open Go.RowKit

/-- are two lists alike, place by place? -/
def Pair {α : Type} (r : α → α → Bool) (a b : List α) : Prop := a.length = b.length ∧ ∀ (j : Nat) x y, a[j]? = some x → b[j]? = some y → r x y = true
theorem pair_stop {α : Type} {r : α → α → Bool} {a b : List α} {k : Nat} {x y : α} (hx : a[k]? = some x) (hy : b[k]? = some y) (h : r x y = false) : tf (Pair r a b) = false :=
  tf_no fun hp => by have := hp.2 k x y hx hy; rw [h] at this; cases this
theorem pair_self {α : Type} {r : α → α → Bool} (h : ∀ x, r x x = true) (a : List α) : tf (Pair r a a) = true :=
  tf_yes ⟨rfl, fun j x y hx hy => by rw [hx] at hy; cases hy; exact h x⟩
/-- are two tables alike? -/
noncomputable def sameT (a b : Tb) : Bool := (a.id == b.id) && (eqS a.nm b.nm && ((a.key == b.key) && ((a.nx == b.nx) && tf (Pair eqC a.cols b.cols))))
theorem eqC_self (c : Cb) : eqC c c = true := eqC_iff.2 rfl
theorem sameT_self (t : Tb) : sameT t t = true := by
  unfold sameT
  rw [pair_self eqC_self, eqS_self]; simp
end Go.Proofs.YthmjgaekcghonaaGreatDoor

/-
  Contracts of package schema's SameTable and Same, and of the document's own SameCols, SameTable and Same.
-/
namespace Go.Proofs.YthmjgaekcghonaaGreatDoor
open Go.RowKit

set_option maxRecDepth 100000 in
set_option maxHeartbeats 1600000 in
theorem rsamec_any (A A2 : Option Addr) (cp cp2 : Nat) (a b : List Cb) (w : World) (hA : ColsAt w w.heap.size A a) (hA2 : ColsAt w w.heap.size A2 b) (hl : a.length ≤ 1000000) (_hl2 : b.length ≤ 1000000) :
    Calls Tryz.prog 54 #[.slice A a.length cp, .slice A2 b.length cp2] w fun e w' => e = .returned (.bool (tf (Pair eqC a b))) ∧ Below w.heap.size w w' := by
  have HA := Lib.hid hA; clear hA
  have HA2 := Lib.hid hA2; clear hA2
  by_cases hlen : a.length = b.length
  · have hneq : ((a.length : Int) != (b.length : Int)) = false := by simp [hlen]
    have heql : ((a.length : Int) == (b.length : Int)) = true := by simp [hlen]
    have Hlen := Lib.hid hlen; clear hlen
    go_enter Tryz.func54, Tryz.ntmps54
    go_wp2_with fail
    go_loopw [5] (fun i wr => ∃ k : Nat, k ≤ a.length ∧ i = .int .i64 k ∧ Hid (∀ j x y, a[j]? = some x → b[j]? = some y → j < k → eqC x y = true) ∧ Hid (Below w.heap.size w wr)) (fun i _ => a.length - (intOf i).toNat)
    case atStart => exact ⟨0, by omega, rfl, fun j x y _ _ h => absurd h (by omega), Below.refl _ _⟩
    case round =>
      obtain ⟨k, hk, rfl, hall, hb⟩ := hrel
      by_cases hlt : k < a.length
      · have hlt2 : k < b.length := by have := Hlen.out; omega
        obtain ⟨x, hx⟩ : ∃ x, a[k]? = some x := ⟨a[k], by simp [hlt]⟩
        obtain ⟨y, hy⟩ : ∃ y, b[k]? = some y := ⟨b[k], by simp [hlt2]⟩
        have Hx := Lib.hid hx
        have Hy := Lib.hid hy
        obtain ⟨b1, off, rfl, hbB, c0, c1, c2, c3, c4, c5, c6, c7⟩ := ColsAt.get (RowAt.below HA.out hb.out) k x hx
        obtain ⟨b2, off2, rfl, hbB2, d0, d1, d2, d3, d4, d5, d6, d7⟩ := ColsAt.get (RowAt.below HA2.out hb.out) k y hy
        have hne : Nonempty (BelowBy wr.heap.size wr) := ⟨⟨wr, Below.refl _ _⟩⟩
        have X0 : ∀ p : BelowBy wr.heap.size wr, p.x.cell? ⟨b1, off + k * 8, none⟩ = some (.int .i64 x.id) := fun p => (p.h.cell (by have := hb.out.size; simp; omega)).trans c0
        have X1 : ∀ p : BelowBy wr.heap.size wr, p.x.cell? ⟨b1, off + k * 8 + 1, none⟩ = some (.string x.nm) := fun p => (p.h.cell (by have := hb.out.size; simp; omega)).trans c1
        have X2 : ∀ p : BelowBy wr.heap.size wr, p.x.cell? ⟨b1, off + k * 8 + 2, none⟩ = some (.int .i64 x.tk) := fun p => (p.h.cell (by have := hb.out.size; simp; omega)).trans c2
        have X3 : ∀ p : BelowBy wr.heap.size wr, p.x.cell? ⟨b1, off + k * 8 + 3, none⟩ = some (.int .i64 x.tm) := fun p => (p.h.cell (by have := hb.out.size; simp; omega)).trans c3
        have X4 : ∀ p : BelowBy wr.heap.size wr, p.x.cell? ⟨b1, off + k * 8 + 4, none⟩ = some (.bool x.nl) := fun p => (p.h.cell (by have := hb.out.size; simp; omega)).trans c4
        have X5 : ∀ p : BelowBy wr.heap.size wr, p.x.cell? ⟨b1, off + k * 8 + 5, none⟩ = some (.int .i64 x.dk) := fun p => (p.h.cell (by have := hb.out.size; simp; omega)).trans c5
        have X6 : ∀ p : BelowBy wr.heap.size wr, p.x.cell? ⟨b1, off + k * 8 + 6, none⟩ = some (.int .i64 x.dn) := fun p => (p.h.cell (by have := hb.out.size; simp; omega)).trans c6
        have X7 : ∀ p : BelowBy wr.heap.size wr, p.x.cell? ⟨b1, off + k * 8 + 7, none⟩ = some (.string x.ds) := fun p => (p.h.cell (by have := hb.out.size; simp; omega)).trans c7
        have Y0 : ∀ p : BelowBy wr.heap.size wr, p.x.cell? ⟨b2, off2 + k * 8, none⟩ = some (.int .i64 y.id) := fun p => (p.h.cell (by have := hb.out.size; simp; omega)).trans d0
        have Y1 : ∀ p : BelowBy wr.heap.size wr, p.x.cell? ⟨b2, off2 + k * 8 + 1, none⟩ = some (.string y.nm) := fun p => (p.h.cell (by have := hb.out.size; simp; omega)).trans d1
        have Y2 : ∀ p : BelowBy wr.heap.size wr, p.x.cell? ⟨b2, off2 + k * 8 + 2, none⟩ = some (.int .i64 y.tk) := fun p => (p.h.cell (by have := hb.out.size; simp; omega)).trans d2
        have Y3 : ∀ p : BelowBy wr.heap.size wr, p.x.cell? ⟨b2, off2 + k * 8 + 3, none⟩ = some (.int .i64 y.tm) := fun p => (p.h.cell (by have := hb.out.size; simp; omega)).trans d3
        have Y4 : ∀ p : BelowBy wr.heap.size wr, p.x.cell? ⟨b2, off2 + k * 8 + 4, none⟩ = some (.bool y.nl) := fun p => (p.h.cell (by have := hb.out.size; simp; omega)).trans d4
        have Y5 : ∀ p : BelowBy wr.heap.size wr, p.x.cell? ⟨b2, off2 + k * 8 + 5, none⟩ = some (.int .i64 y.dk) := fun p => (p.h.cell (by have := hb.out.size; simp; omega)).trans d5
        have Y6 : ∀ p : BelowBy wr.heap.size wr, p.x.cell? ⟨b2, off2 + k * 8 + 6, none⟩ = some (.int .i64 y.dn) := fun p => (p.h.cell (by have := hb.out.size; simp; omega)).trans d6
        have Y7 : ∀ p : BelowBy wr.heap.size wr, p.x.cell? ⟨b2, off2 + k * 8 + 7, none⟩ = some (.string y.ds) := fun p => (p.h.cell (by have := hb.out.size; simp; omega)).trans d7
        have q : ∀ w, (binOp .neq 63 (CV x) (CV y)).run Tryz.prog w = .ok (.bool (!eqC x y)) w := fun w => run_neq_C w x y
        have hk0 : (0 : Int) ≤ (k : Int) := by omega
        clear hx hy c0 c1 c2 c3 c4 c5 c6 c7 d0 d1 d2 d3 d4 d5 d6 d7
        cases hp : eqC x y
        · have Hno : Hid (tf (Pair eqC a b) = false) := pair_stop Hx.out Hy.out hp
          rw [hp] at q
          clear hp
          go_wp2_with fail
          refine wp_region_below wr.heap.size (by kernel_rfl) (by kernel_rfl) ?_
          repeat (
            with_reducible refine wpQuiet_step (fun K hK => ?_)
            go_simp
            refine hK _ ?_
            clear hK K)
          refine wpQuiet_nil ?_
          rintro _ ⟨p, rfl⟩
          go_wp2_with fail
          go_ret
          exact ⟨by rw [Hno.out]; rfl, bthen hb.out p.h⟩
        · have Hall : Hid (∀ j x y, a[j]? = some x → b[j]? = some y → j < k + 1 → eqC x y = true) := fun j x' y' hj hj2 hk => by
            by_cases e : j = k
            · subst e
              rw [Hx.out] at hj; cases hj
              rw [Hy.out] at hj2; cases hj2
              exact hp
            · exact hall.out j x' y' hj hj2 (by omega)
          rw [hp] at q
          clear hp
          go_wp2_with fail
          refine wp_region_below wr.heap.size (by kernel_rfl) (by kernel_rfl) ?_
          repeat (
            with_reducible refine wpQuiet_step (fun K hK => ?_)
            go_simp
            refine hK _ ?_
            clear hK K)
          refine wpQuiet_nil ?_
          rintro _ ⟨p, rfl⟩
          go_wp2_with fail
          go_roundw
          case rel => exact ⟨k + 1, by omega, by go_num, Hall.out, bthen hb.out p.h⟩
          case measure => simp [intOf]; omega
      · have Hyes : Hid (tf (Pair eqC a b) = true) := tf_yes ⟨Hlen.out, fun j x y hx hy => hall.out j x y hx hy (by have := (List.getElem?_eq_some_iff.1 hx).1; omega)⟩
        go_wp2_with fail
        go_ret
        exact ⟨by rw [Hyes.out]; rfl, hb.out⟩
  · have hneq : ((a.length : Int) != (b.length : Int)) = true := by simp; omega
    have heql : ((a.length : Int) == (b.length : Int)) = false := by simp; omega
    have Hno : Hid (tf (Pair eqC a b) = false) := tf_no fun h => hlen h.1
    clear hlen
    go_enter Tryz.func54, Tryz.ntmps54
    go_wp2_with fail
    go_ret
    exact ⟨by rw [Hno.out]; rfl, Below.refl _ _⟩
set_option maxRecDepth 100000 in
set_option maxHeartbeats 1600000 in
theorem rsametab_any (a b : Tb) (w : World) (hA : TabAt w w.heap.size a) (hB : TabAt w w.heap.size b) (hl : a.cols.length ≤ 1000000) (hl2 : b.cols.length ≤ 1000000) :
    Calls Tryz.prog 27 #[TV a, TV b] w fun e w' => e = .returned (.bool (sameT a b)) ∧ Below w.heap.size w w' := by
  have hk := Lib.hid (below_two w (.cells (fT a).toArray 51) (.cells (fT b).toArray 51))
  have HC := Lib.hid (rsamec_any a.A b.A a.cap b.cap a.cols b.cols _ (RowAt.to hA hk.out) (RowAt.to hB hk.out) hl hl2)
  obtain ⟨x0, x1, x2, x3, x4⟩ := (BlkN.new w _ (fT a) 51 rfl).tab
  have e0 := fun o => keep_alloc x0 o
  have e1 := fun o => keep_alloc x1 o
  have e2 := fun o => keep_alloc x2 o
  have e3 := fun o => keep_alloc x3 o
  have e4 := fun o => keep_alloc x4 o
  clear x0 x1 x2 x3 x4 hA hB
  unfold fT at e0 e1 e2 e3 e4
  have Hv : Hid (sameT a b = ((a.id == b.id) && (eqS a.nm b.nm && ((a.key == b.key) && ((a.nx == b.nx) && tf (Pair eqC a.cols b.cols)))))) := rfl
  generalize h1 : (a.id == b.id) = b1 at Hv
  generalize hE : eqS a.nm b.nm = b2 at Hv
  have h2 : (a.nm.toList == b.nm.toList) = b2 := hE
  clear hE
  generalize h3 : (a.key == b.key) = b3 at Hv
  generalize h4 : (a.nx == b.nx) = b4 at Hv
  generalize tf (Pair eqC a.cols b.cols) = b5 at Hv HC
  cases b1
  · go_enter Tryz.func27, Tryz.ntmps27
    go_wp2_with fail
    go_ret
    exact ⟨by rw [Hv.out]; rfl, hk.out⟩
  cases b2
  · go_enter Tryz.func27, Tryz.ntmps27
    go_wp2_with fail
    go_ret
    exact ⟨by rw [Hv.out]; rfl, hk.out⟩
  cases b3
  · go_enter Tryz.func27, Tryz.ntmps27
    go_wp2_with fail
    go_ret
    exact ⟨by rw [Hv.out]; rfl, hk.out⟩
  cases b4
  · go_enter Tryz.func27, Tryz.ntmps27
    go_wp2_with fail
    go_ret
    exact ⟨by rw [Hv.out]; rfl, hk.out⟩
  · go_enter Tryz.func27, Tryz.ntmps27
    go_wp2_with fail
    refine HC.out.mono ?_
    rintro e w1 ⟨rfl, hb1⟩
    have Hb1 := Lib.hid (bthen hk.out hb1); clear hb1
    go_wp2_with fail
    go_ret
    exact ⟨by rw [Hv.out]; rfl, Hb1.out⟩
theorem box_two (w : World) (u v : Value) (ty : TypeId) : ∃ w0, (w.alloc (.cells #[u] ty)).alloc (.cells #[v] ty) = w0 ∧ Below w.heap.size w w0 ∧ w0.cell? ⟨w.heap.size, 0, none⟩ = some u ∧ w0.cell? ⟨w.heap.size + 1, 0, none⟩ = some v ∧ w0.heap.size = w.heap.size + 2 :=
  ⟨_, rfl, below_two w _ _, keep_alloc (by simp) _, by simp, by simp⟩
set_option maxRecDepth 100000 in
set_option maxHeartbeats 1600000 in
theorem rsamecat_any (A A2 : Option Addr) (cp cp2 : Nat) (a b : List Tb) (w : World) (hA : TabsAt w w.heap.size A a) (hA2 : TabsAt w w.heap.size A2 b) (hl : a.length ≤ 1000000) (_hl2 : b.length ≤ 1000000)
    (hw : ∀ t ∈ a, WfT t) (hw2 : ∀ t ∈ b, WfT t) :
    Calls Tryz.prog 10 #[.agg #[.slice A a.length cp], .agg #[.slice A2 b.length cp2]] w fun e w' => e = .returned (.bool (tf (Pair sameT a b))) ∧ Below w.heap.size w w' := by
  obtain ⟨w0, hw0, hb0, hU, hV, hs0⟩ := box_two w (.slice A a.length cp) (.slice A2 b.length cp2) 24
  have Hw0 := Lib.hid hw0
  have Hb0 := Lib.hid hb0
  have HA := Lib.hid (hA.to hb0); clear hA
  have HA2 := Lib.hid (hA2.to hb0); clear hA2 hb0
  have HU := Lib.hid hU; clear hU
  have HV := Lib.hid hV; clear hV
  have Hs0 := Lib.hid hs0; clear hs0 hw0
  have HW := Lib.hid hw; clear hw
  have HW2 := Lib.hid hw2; clear hw2
  have e0 : ∀ o, ((w.alloc (.cells #[.slice A a.length cp] 24)).alloc o).cell? ⟨w.heap.size, 0, none⟩ = some (.slice A a.length cp) := fun o => keep_alloc (by simp) o
  by_cases hlen : a.length = b.length
  · have hneq : ((a.length : Int) != (b.length : Int)) = false := by simp [hlen]
    have heql : ((a.length : Int) == (b.length : Int)) = true := by simp [hlen]
    have Hlen := Lib.hid hlen; clear hlen
    go_enter Tryz.func10, Tryz.ntmps10
    go_wp2_with fail
    rw [Hw0.out]
    clear e0
    go_loopw [5] (fun i wr => ∃ k : Nat, k ≤ a.length ∧ i = .int .i64 k ∧ Hid (∀ j x y, a[j]? = some x → b[j]? = some y → j < k → sameT x y = true) ∧ Hid (Below w0.heap.size w0 wr)) (fun i _ => a.length - (intOf i).toNat)
    case atStart => exact ⟨0, by omega, rfl, fun j x y _ _ h => absurd h (by omega), Below.refl _ _⟩
    case round =>
      obtain ⟨k, hk, rfl, hall, hb⟩ := hrel
      have Hbw := Lib.hid (bthen Hb0.out hb.out)
      have u0 : wr.cell? ⟨w.heap.size, 0, none⟩ = some (.slice A a.length cp) := (hb.out.cell (by have := Hs0.out; simp; omega)).trans HU.out
      by_cases hlt : k < a.length
      · have hlt2 : k < b.length := by have := Hlen.out; omega
        obtain ⟨x, hx⟩ : ∃ x, a[k]? = some x := ⟨a[k], by simp [hlt]⟩
        obtain ⟨y, hy⟩ : ∃ y, b[k]? = some y := ⟨b[k], by simp [hlt2]⟩
        have Hx := Lib.hid hx
        have Hy := Lib.hid hy
        obtain ⟨b1, off, hAe, hbB, c0, c1, c2, c3, c4⟩ := (HA.out.below hb.out).get k x hx
        obtain ⟨b2, off2, hAe2, hbB2, d0, d1, d2, d3, d4⟩ := (HA2.out.below hb.out).get k y hy
        have hne : Nonempty (BelowBy wr.heap.size wr) := ⟨⟨wr, Below.refl _ _⟩⟩
        have U0 : ∀ p : BelowBy wr.heap.size wr, p.x.cell? ⟨w.heap.size, 0, none⟩ = some (.slice (some ⟨b1, off, none⟩) a.length cp) := fun p => by rw [← hAe]; exact (p.h.cell (by have := Hs0.out; have := hb.out.size; simp; omega)).trans u0
        have V0 : ∀ p : BelowBy wr.heap.size wr, p.x.cell? ⟨w.heap.size + 1, 0, none⟩ = some (.slice (some ⟨b2, off2, none⟩) b.length cp2) := fun p => by rw [← hAe2]; exact (p.h.cell (by have := Hs0.out; have := hb.out.size; simp; omega)).trans ((hb.out.cell (by have := Hs0.out; simp; omega)).trans HV.out)
        clear hAe hAe2
        have X0 : ∀ p : BelowBy wr.heap.size wr, p.x.cell? ⟨b1, off + k * 5, none⟩ = some (.int .i64 x.id) := fun p => (p.h.cell (by have := hb.out.size; simp; omega)).trans c0
        have X1 : ∀ p : BelowBy wr.heap.size wr, p.x.cell? ⟨b1, off + k * 5 + 1, none⟩ = some (.string x.nm) := fun p => (p.h.cell (by have := hb.out.size; simp; omega)).trans c1
        have X2 : ∀ p : BelowBy wr.heap.size wr, p.x.cell? ⟨b1, off + k * 5 + 2, none⟩ = some (.int .i64 x.key) := fun p => (p.h.cell (by have := hb.out.size; simp; omega)).trans c2
        have X3 : ∀ p : BelowBy wr.heap.size wr, p.x.cell? ⟨b1, off + k * 5 + 3, none⟩ = some (.int .i64 x.nx) := fun p => (p.h.cell (by have := hb.out.size; simp; omega)).trans c3
        have X4 : ∀ p : BelowBy wr.heap.size wr, p.x.cell? ⟨b1, off + k * 5 + 4, none⟩ = some (.slice x.A x.cols.length x.cap) := fun p => (p.h.cell (by have := hb.out.size; simp; omega)).trans c4
        have Y0 : ∀ p : BelowBy wr.heap.size wr, p.x.cell? ⟨b2, off2 + k * 5, none⟩ = some (.int .i64 y.id) := fun p => (p.h.cell (by have := hb.out.size; simp; omega)).trans d0
        have Y1 : ∀ p : BelowBy wr.heap.size wr, p.x.cell? ⟨b2, off2 + k * 5 + 1, none⟩ = some (.string y.nm) := fun p => (p.h.cell (by have := hb.out.size; simp; omega)).trans d1
        have Y2 : ∀ p : BelowBy wr.heap.size wr, p.x.cell? ⟨b2, off2 + k * 5 + 2, none⟩ = some (.int .i64 y.key) := fun p => (p.h.cell (by have := hb.out.size; simp; omega)).trans d2
        have Y3 : ∀ p : BelowBy wr.heap.size wr, p.x.cell? ⟨b2, off2 + k * 5 + 3, none⟩ = some (.int .i64 y.nx) := fun p => (p.h.cell (by have := hb.out.size; simp; omega)).trans d3
        have Y4 : ∀ p : BelowBy wr.heap.size wr, p.x.cell? ⟨b2, off2 + k * 5 + 4, none⟩ = some (.slice y.A y.cols.length y.cap) := fun p => (p.h.cell (by have := hb.out.size; simp; omega)).trans d4
        have HS := Lib.hid (fun w' (hb' : Below wr.heap.size wr w') => rsametab_any x y w' (((HA.out.to hb.out).to hb').2 x (List.mem_of_getElem? hx)) (((HA2.out.to hb.out).to hb').2 y (List.mem_of_getElem? hy)) (HW.out x (List.mem_of_getElem? hx)).2.1 (HW2.out y (List.mem_of_getElem? hy)).2.1)
        clear hx hy c0 c1 c2 c3 c4 d0 d1 d2 d3 d4
        cases hp : sameT x y
        · have Hno : Hid (tf (Pair sameT a b) = false) := pair_stop Hx.out Hy.out hp
          rw [hp] at HS
          clear hp
          go_wp2_with fail
          refine wp_region_below wr.heap.size (by kernel_rfl) (by kernel_rfl) ?_
          repeat (
            with_reducible refine wpQuiet_step (fun K hK => ?_)
            go_simp
            refine hK _ ?_
            clear hK K)
          with_reducible refine wpQuiet_step (fun K hK => ?_)
          go_simp
          apply Exists.intro
          refine ⟨fun p => ?_, hK _ ?_⟩
          exact (HS.out _ p.h).mono fun e w5 ⟨he, hb⟩ => ⟨he, p.step (Nat.le_refl _) hb⟩
          clear hK K
          repeat (
            with_reducible refine wpQuiet_step (fun K hK => ?_)
            go_simp
            refine hK _ ?_
            clear hK K)
          refine wpQuiet_nil ?_
          rintro _ ⟨p, rfl⟩
          go_wp2_with fail
          go_ret
          exact ⟨by rw [Hno.out]; rfl, bthen Hbw.out p.h⟩
        · have Hall : Hid (∀ j x y, a[j]? = some x → b[j]? = some y → j < k + 1 → sameT x y = true) := fun j x' y' hj hj2 hk => by
            by_cases e : j = k
            · subst e
              rw [Hx.out] at hj; cases hj
              rw [Hy.out] at hj2; cases hj2
              exact hp
            · exact hall.out j x' y' hj hj2 (by omega)
          rw [hp] at HS
          clear hp
          go_wp2_with fail
          refine wp_region_below wr.heap.size (by kernel_rfl) (by kernel_rfl) ?_
          repeat (
            with_reducible refine wpQuiet_step (fun K hK => ?_)
            go_simp
            refine hK _ ?_
            clear hK K)
          with_reducible refine wpQuiet_step (fun K hK => ?_)
          go_simp
          apply Exists.intro
          refine ⟨fun p => ?_, hK _ ?_⟩
          exact (HS.out _ p.h).mono fun e w5 ⟨he, hb⟩ => ⟨he, p.step (Nat.le_refl _) hb⟩
          clear hK K
          repeat (
            with_reducible refine wpQuiet_step (fun K hK => ?_)
            go_simp
            refine hK _ ?_
            clear hK K)
          refine wpQuiet_nil ?_
          rintro _ ⟨p, rfl⟩
          go_wp2_with fail
          go_roundw
          case rel => exact ⟨k + 1, by omega, by go_num, Hall.out, bthen hb.out p.h⟩
          case measure => simp [intOf]; omega
      · have Hyes : Hid (tf (Pair sameT a b) = true) := tf_yes ⟨Hlen.out, fun j x y hx hy => hall.out j x y hx hy (by have := (List.getElem?_eq_some_iff.1 hx).1; omega)⟩
        go_wp2_with fail
        go_ret
        exact ⟨by rw [Hyes.out]; rfl, Hbw.out⟩
  · have hneq : ((a.length : Int) != (b.length : Int)) = true := by simp; omega
    have heql : ((a.length : Int) == (b.length : Int)) = false := by simp; omega
    have Hno : Hid (tf (Pair sameT a b) = false) := tf_no fun h => hlen h.1
    clear hlen
    go_enter Tryz.func10, Tryz.ntmps10
    go_wp2_with fail
    go_ret
    exact ⟨by rw [Hno.out]; rfl, by rw [Hw0.out]; exact Hb0.out⟩
end Go.Proofs.YthmjgaekcghonaaGreatDoor

/-
  Contracts of slices.Equal at columns and of package ddl's Same.
-/
namespace Go.Proofs.YthmjgaekcghonaaGreatDoor
open Go.RowKit

theorem box_dd (w : World) (a b : Db) : ∃ w0, (w.alloc (.cells #[.int .i64 a.p.op, .string a.p.tb, .string a.p.co, .string a.p.to, .string a.p.key, .int .i64 a.p.tk, .int .i64 a.p.tm, .bool a.p.nl, .int .i64 a.p.dk, .int .i64 a.p.dn, .string a.p.ds, .slice a.A a.p.cols.length a.cap] 31)).alloc (.cells #[.int .i64 b.p.op, .string b.p.tb, .string b.p.co, .string b.p.to, .string b.p.key, .int .i64 b.p.tk, .int .i64 b.p.tm, .bool b.p.nl, .int .i64 b.p.dk, .int .i64 b.p.dn, .string b.p.ds, .slice b.A b.p.cols.length b.cap] 31) = w0 ∧ Below w.heap.size w w0 ∧ BlkN w0 w.heap.size (fD a) ∧ BlkN w0 (w.heap.size + 1) (fD b) ∧ w0.heap.size = w.heap.size + 2 :=
  ⟨_, rfl, below_two w _ _, (BlkN.new w _ (fD a) _ rfl).alloc (by simp) _, BlkN.new _ _ (fD b) _ (by simp), by simp⟩
end Go.Proofs.YthmjgaekcghonaaGreatDoor
