/-
  Contracts of package utf on one code point: isCodePoint, sizeOf, sizeAfter, Put, Read; the two tables.
-/
import Derived.Test.YtbbdmphclnnejaaDoorWordNum
import Derived.Test.YtbbdmphclnnejaaDoorStrs
import Derived.Test.YtbbdmphclnnejaaDoorUtfMath
import Derived.Laws.Bits128
namespace Go.Proofs.YtbbdmphclnnejaaDoor
open Go.RowKit

/-- the two tables lie in their variables -/
def UTab (w : World) : Prop := (∀ i : Nat, i < 4 → w.cell? ⟨0, i, none⟩ = some (.int .i64 ((mark (i + 1) : Nat) : Int))) ∧ ∀ i : Nat, i < 4 → w.cell? ⟨1, i, none⟩ = some (.int .i64 ((lst (i + 1) : Nat) : Int))
theorem UTab.pos {w : World} (h : UTab w) : 0 < w.heap.size ∧ 1 < w.heap.size := ⟨World.block_lt_of_cell? w ⟨0, 0, none⟩ (h.1 0 (by omega)), World.block_lt_of_cell? w ⟨1, 0, none⟩ (h.2 0 (by omega))⟩
theorem UTab.below {w w' : World} {B : Nat} (h : UTab w) (hb : Below B w w') (hB : w.heap.size ≤ B) : UTab w' :=
  ⟨fun i hi => (hb.cell (p := ⟨0, i, none⟩) (Nat.lt_of_lt_of_le h.pos.1 hB)).trans (h.1 i hi), fun i hi => (hb.cell (p := ⟨1, i, none⟩) (Nat.lt_of_lt_of_le h.pos.2 hB)).trans (h.2 i hi)⟩
theorem UTab.alloc {w : World} (h : UTab w) (o : Obj) : UTab (w.alloc o) := h.below ((Below.refl _ _).alloc (Nat.le_refl _) o) (Nat.le_refl _)
theorem UTab.drew {w : World} (h : UTab w) : UTab w.drew := h.below (Below.refl w.heap.size _).drew (Nat.le_refl _)

set_option maxHeartbeats 400000 in
theorem isCode_any (n : Int) (w : World) : Calls Tryd.prog 57 #[.int .i64 n] w fun e w' => e = .returned (.bool (isP n)) ∧ w = w' := by
  have Hp := Lib.hid (isP_iff n)
  have Hb : Hid (isP n = false ↔ ¬ (0 ≤ n ∧ n ≤ 1114111 ∧ (n < 55296 ∨ 57343 < n))) := by show _ ↔ _; simp [isP]
  rcases (show n < 0 ∨ (0 ≤ n ∧ n < 55296) ∨ (55296 ≤ n ∧ n ≤ 57343) ∨ (57343 < n ∧ n ≤ 1114111) ∨ 1114111 < n by omega) with h | ⟨h, h2⟩ | ⟨h, h2⟩ | ⟨h, h2⟩ | h
  · have d1 : decide (55296 ≤ n) = false := by simp; omega
    have d2 : decide (0 ≤ n) = false := by simp; omega
    go_enter Tryd.func57, Tryd.ntmps57
    go_wp2
    go_ret
    exact ⟨by rw [Hb.out.2 (by omega)]; rfl, rfl⟩
  · have d1 : decide (55296 ≤ n) = false := by simp; omega
    have d2 : decide (0 ≤ n) = true := by simp; omega
    have d3 : decide (n ≤ 1114111) = true := by simp; omega
    go_enter Tryd.func57, Tryd.ntmps57
    go_wp2
    go_ret
    exact ⟨by rw [Hp.out.2 (by omega)]; rfl, rfl⟩
  · have d1 : decide (55296 ≤ n) = true := by simp; omega
    have d2 : decide (n ≤ 57343) = true := by simp; omega
    go_enter Tryd.func57, Tryd.ntmps57
    go_wp2
    go_ret
    exact ⟨by rw [Hb.out.2 (by omega)]; rfl, rfl⟩
  · have d1 : decide (55296 ≤ n) = true := by simp; omega
    have d2 : decide (n ≤ 57343) = false := by simp; omega
    have d3 : decide (0 ≤ n) = true := by simp; omega
    have d4 : decide (n ≤ 1114111) = true := by simp; omega
    go_enter Tryd.func57, Tryd.ntmps57
    go_wp2
    go_ret
    exact ⟨by rw [Hp.out.2 (by omega)]; rfl, rfl⟩
  · have d1 : decide (55296 ≤ n) = true := by simp; omega
    have d2 : decide (n ≤ 57343) = false := by simp; omega
    have d3 : decide (0 ≤ n) = true := by simp; omega
    have d4 : decide (n ≤ 1114111) = false := by simp; omega
    go_enter Tryd.func57, Tryd.ntmps57
    go_wp2
    go_ret
    exact ⟨by rw [Hb.out.2 (by omega)]; rfl, rfl⟩

set_option maxRecDepth 100000 in
set_option maxHeartbeats 400000 in
theorem sizeAfter_any (b : Nat) (w : World) (_ : b < 256) : Calls Tryd.prog 56 #[.int .i64 b] w fun e w' => e = .returned (.int .i64 (sz b : Nat)) ∧ w = w' := by
  have H : Hid (sz b = if b < 128 then 1 else if b < 192 then 0 else if b < 224 then 2 else if b < 240 then 3 else if b < 248 then 4 else 0) := rfl
  rcases (show b < 128 ∨ (128 ≤ b ∧ b < 192) ∨ (192 ≤ b ∧ b < 224) ∨ (224 ≤ b ∧ b < 240) ∨ (240 ≤ b ∧ b < 248) ∨ 248 ≤ b by omega) with h | ⟨h, h2⟩ | ⟨h, h2⟩ | ⟨h, h2⟩ | ⟨h, h2⟩ | h
  all_goals
    go_enter Tryd.func56, Tryd.ntmps56
    go_wp2
    go_ret
    refine ⟨ret_int ?_, rfl⟩
    rw [H.out]
    repeat (first | rw [if_pos (by omega)] | rw [if_neg (by omega)])
    rfl

theorem lst_vals : lst 1 = 0 ∧ lst 2 = 128 ∧ lst 3 = 2048 ∧ lst 4 = 65536 := ⟨rfl, rfl, rfl, rfl⟩
theorem mark_vals : mark 1 = 0 ∧ mark 2 = 192 ∧ mark 3 = 224 ∧ mark 4 = 240 := ⟨rfl, rfl, rfl, rfl⟩

theorem wraps_i64 (n : Int) (h₀ : 0 ≤ n) (h₁ : n < 2 ^ 62) : IntKind.i64.wrap n = n := by rw [IntKind.wrap_i64]; omega
theorem i64_and63 (n : Nat) (h : n < 4611686018427387904) : bits .and .i64 (n : Int) 63 = ((n % 64 : Nat) : Int) := by
  have := bits_mask .i64 62 (by decide) wraps_i64 6 (by decide) (n : Int) (by omega) (by omega)
  exact this
theorem i64_or128 (m : Nat) (h : m < 64) : bits .or .i64 128 (m : Int) = ((128 + m : Nat) : Int) := by
  have := bits_join .i64 62 (by decide) wraps_i64 6 128 (m : Int) (by omega) (by omega) (by omega) (by omega) (by omega) (by omega)
  rw [this]; omega
theorem i64_or6 (a m : Nat) (ha : a < 1073741824) (h : m < 64) : bits .or .i64 ((a : Int) * 64) (m : Int) = ((a * 64 + m : Nat) : Int) := by
  have := bits_join .i64 62 (by decide) wraps_i64 6 ((a : Int) * 64) (m : Int) (by omega) (by omega) (by omega) (by omega) (by omega) (by omega)
  rw [this]; omega
theorem andNot63 : ∀ b : Nat, b < 256 → bits .andNot .i64 (b : Int) 63 = ((b / 64 * 64 : Nat) : Int) := by decide +kernel
end Go.Proofs.YtbbdmphclnnejaaDoor
