/-
  Contracts of package value: Int, Long, Text, Bytes, Right, and of the document's own Right.
-/
import Derived.Test.YtbbdmphclnnejaaDoorUtfLivesC
import Derived.Test.YtbbdmphclnnejaaDoorWordNum
import Derived.Test.YtbbdmphclnnejaaDoorValMath
import Derived.Test.YtbbdmphclnnejaaDoorNameC
import Derived.Handy
namespace Go.Proofs.YtbbdmphclnnejaaDoor
open Go.RowKit

/-- a block of three cells that may be written -/
def Blk3 (w : World) (b : Nat) (x y z : Value) : Prop := w.cell? ⟨b, 0, none⟩ = some x ∧ w.cell? ⟨b, 1, none⟩ = some y ∧ w.cell? ⟨b, 2, none⟩ = some z ∧
  w.frozen? ⟨b, 0, none⟩ = false ∧ w.frozen? ⟨b, 1, none⟩ = false ∧ w.frozen? ⟨b, 2, none⟩ = false
theorem Blk3.new (w : World) (x y z : Value) (t : TypeId) : Blk3 (w.alloc (.cells #[x, y, z] t)) w.heap.size x y z := by
  refine ⟨?_, ?_, ?_, ?_, ?_, ?_⟩ <;> simp
theorem Blk3.below {w w1 : World} {b B : Nat} {x y z : Value} (h : Blk3 w b x y z) (hb : Below B w w1) (hB : b < B) : Blk3 w1 b x y z := by
  obtain ⟨c0, c1, c2, f0, f1, f2⟩ := h
  exact ⟨(hb.cell hB).trans c0, (hb.cell hB).trans c1, (hb.cell hB).trans c2, (hb.frozen hB).trans f0, (hb.frozen hB).trans f1, (hb.frozen hB).trans f2⟩
theorem Blk3.set3 {w : World} {b : Nat} {x y z x' y' z' : Value} (h : Blk3 w b x y z) : Blk3 (((w.setCell ⟨b, 0, none⟩ x').setCell ⟨b, 1, none⟩ y').setCell ⟨b, 2, none⟩ z') b x' y' z' := by
  obtain ⟨c0, c1, c2, f0, f1, f2⟩ := h
  have n01 : (⟨b, 0, none⟩ : Addr) ≠ ⟨b, 1, none⟩ := by simp
  have n02 : (⟨b, 0, none⟩ : Addr) ≠ ⟨b, 2, none⟩ := by simp
  have n12 : (⟨b, 1, none⟩ : Addr) ≠ ⟨b, 2, none⟩ := by simp
  refine ⟨?_, ?_, ?_, ?_, ?_, ?_⟩
  · rw [World.cell?_setCell_other _ _ _ _ n02.symm, World.cell?_setCell_other _ _ _ _ n01.symm, World.cell?_setCell_same _ _ _ c0]
  · rw [World.cell?_setCell_other _ _ _ _ n12.symm, World.cell?_setCell_same _ _ _ (by rw [World.cell?_setCell_other _ _ _ _ n01]; exact c1)]
  · rw [World.cell?_setCell_same _ _ _ (by rw [World.cell?_setCell_other _ _ _ _ n12, World.cell?_setCell_other _ _ _ _ n02]; exact c2)]
  all_goals simpa only [World.frozen?_setCell]
theorem results_v1 {fn : Func} {p : Tmp} (h : fn.results = #[.cell p 30]) (tmps : Array Value) (w : World) {b : Nat} {x y z : Value} (hp : tmps.getD p undef = .pointer (some ⟨b, 0, none⟩)) (hb : Blk3 w b x y z) :
    (results fn tmps).run Tryd.prog w = .ok (.agg #[x, y, z]) w := by
  obtain ⟨c0, c1, c2, _⟩ := hb
  have hp' : tmps[p]?.getD undef = .pointer (some ⟨b, 0, none⟩) := by simpa using hp
  simp [results, h, go_sem, hp', c0, c1, c2]
theorem results_v2 {fn : Func} {p u : Tmp} (h : fn.results = #[.cell p 30, .tmp u]) (tmps : Array Value) (w : World) {b : Nat} {x y z : Value} (hp : tmps.getD p undef = .pointer (some ⟨b, 0, none⟩)) (hb : Blk3 w b x y z) :
    (results fn tmps).run Tryd.prog w = .ok (.tuple #[.agg #[x, y, z], tmps.getD u undef]) w := by
  obtain ⟨c0, c1, c2, _⟩ := hb
  have hp' : tmps[p]?.getD undef = .pointer (some ⟨b, 0, none⟩) := by simpa using hp
  simp [results, h, go_sem, hp', c0, c1, c2]
theorem results_v3 {fn : Func} {p u v : Tmp} (h : fn.results = #[.cell p 30, .tmp u, .tmp v]) (tmps : Array Value) (w : World) {b : Nat} {x y z : Value} (hp : tmps.getD p undef = .pointer (some ⟨b, 0, none⟩)) (hb : Blk3 w b x y z) :
    (results fn tmps).run Tryd.prog w = .ok (.tuple #[.agg #[x, y, z], tmps.getD u undef, tmps.getD v undef]) w := by
  obtain ⟨c0, c1, c2, _⟩ := hb
  have hp' : tmps[p]?.getD undef = .pointer (some ⟨b, 0, none⟩) := by simpa using hp
  simp [results, h, go_sem, hp', c0, c1, c2]
theorem below_new {w w1 : World} {o : Obj} (hb : Below (w.alloc o).heap.size (w.alloc o) w1) : Below w.heap.size w w1 :=
  ((Below.refl _ _).alloc (Nat.le_refl _) o).trans (hb.mono (by simp))
/-- a value as the program has it -/
abbrev VV (k n : Int) (s : ByteArray) : Value := .agg #[.int .i64 k, .int .i64 n, .string s]
def vnone : Value := VV 0 0 ⟨#[]⟩
/-- is it a valid value? -/
def rightV (k n : Int) (l : List UInt8) : Bool :=
  if k = 0 then decide (n = 0) && decide (l = []) else if k = 1 then fitsB n 32 && decide (l = []) else if k = 2 then decide (l = [])
  else if k = 3 then decide (n = 0) && decide (l.length ≤ 120) && (sg l).isSome else if k = 4 then decide (n = 0) && decide (l.length ≤ 120) else false

theorem fits32 (n : Int) (w : World) : Calls Tryd.prog 31 #[.int .i64 n, .int .i64 32] w fun e w' => e = .returned (.bool (fitsB n 32)) ∧ w = w' := fits_any n 32 w (by omega) (by omega)
theorem rfits32 (n : Int) (w : World) (h3 : -9223372036854775808 ≤ n) (h4 : n < 9223372036854775808) : Calls Tryd.prog 30 #[.int .i64 n, .int .i64 32] w fun e w' => e = .returned (.bool (fitsB n 32)) ∧ w = w' := rfits_any n 32 w (by omega) (by omega) h3 h4
/-- what Int returns -/
def inE (n : Int) : Nat := if fitsB n 32 then 0 else 10
def inV (n : Int) : Value := .tuple #[if inE n = 0 then VV 1 n ⟨#[]⟩ else VV 0 0 ⟨#[]⟩, .int .i64 (inE n : Nat)]
/-- why a text is none, or 0 -/
def txE (l : List UInt8) : Nat := if 120 < l.length then 3 else if (sg l).isSome = true then 0 else 5
def byE (l : List UInt8) : Nat := if 120 < l.length then 3 else 0
set_option maxHeartbeats 400000 in
theorem checkBytes_any (s : ByteArray) (w : World) : Calls Tryd.prog 33 #[.string s] w fun e w' => e = .returned (.int .i64 (byE (bs s) : Nat)) ∧ w = w' := by
  have Hv : Hid (byE (bs s) = if 120 < s.size then 3 else 0) := by show _ = _; unfold byE; rw [bs_length]
  by_cases h : 120 < s.size
  · have d : decide (120 < (s.size : Int)) = true := by simp; omega
    rw [if_pos h] at Hv
    go_enter Tryd.func33, Tryd.ntmps33
    go_wp2_with fail
    go_ret
    exact ⟨by rw [Hv.out]; rfl, rfl⟩
  · have d : decide (120 < (s.size : Int)) = false := by simp; omega
    rw [if_neg h] at Hv
    go_enter Tryd.func33, Tryd.ntmps33
    go_wp2_with fail
    go_ret
    exact ⟨by rw [Hv.out]; rfl, rfl⟩
set_option maxHeartbeats 400000 in
theorem checkText_any (s : ByteArray) (w : World) (ht : UTab w) : Calls Tryd.prog 32 #[.string s] w fun e w' => e = .returned (.int .i64 (txE (bs s) : Nat)) ∧ Below w.heap.size w w' := by
  have Hv : Hid (txE (bs s) = if 120 < s.size then 3 else if (sg (bs s)).isSome = true then 0 else 5) := by show _ = _; unfold txE; rw [bs_length]
  by_cases h : 120 < s.size
  · have d : decide (120 < (s.size : Int)) = true := by simp; omega
    rw [if_pos h] at Hv
    go_enter Tryd.func32, Tryd.ntmps32
    go_wp2_with fail
    go_ret
    exact ⟨by rw [Hv.out]; rfl, Below.refl _ _⟩
  · have d : decide (120 < (s.size : Int)) = false := by simp; omega
    rw [if_neg h] at Hv
    have HR := Lib.hid (right_any s w ht (by omega))
    generalize (sg (bs s)).isSome = b at HR Hv
    cases b
    all_goals
      go_enter Tryd.func32, Tryd.ntmps32
      go_wp2_with fail
      refine HR.out.mono ?_
      rintro e w1 ⟨rfl, hb1⟩
      go_wp2_with fail
      go_ret
      exact ⟨by rw [Hv.out]; rfl, hb1⟩

/-- what Text and Bytes return -/
def txV (s : ByteArray) : Value := .tuple #[if txE (bs s) = 0 then VV 3 0 s else VV 0 0 ⟨#[]⟩, .int .i64 (txE (bs s) : Nat)]
def byV (s : ByteArray) : Value := .tuple #[if byE (bs s) = 0 then VV 4 0 s else VV 0 0 ⟨#[]⟩, .int .i64 (byE (bs s) : Nat)]
theorem byE_cases (l : List UInt8) : byE l = 0 ∨ byE l = 3 := by unfold byE; split <;> simp
theorem txE_cases (l : List UInt8) : txE l = 0 ∨ txE l = 3 ∨ txE l = 5 := by
  unfold txE
  repeat' split
  all_goals simp
theorem wf64 {n : Int} (h : (Lit.int .i64 n).wf = true) : -9223372036854775808 ≤ n ∧ n < 9223372036854775808 := by
  have h2 : IntKind.i64.min ≤ n ∧ n ≤ 9223372036854775807 := by simpa [Lit.wf] using h
  have h3 : (-9223372036854775808 : Int) = IntKind.i64.min := by decide
  omega
end Go.Proofs.YtbbdmphclnnejaaDoor
