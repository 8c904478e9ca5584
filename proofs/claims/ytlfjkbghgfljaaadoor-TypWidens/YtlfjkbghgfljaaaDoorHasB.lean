/-
  A row of bytes that may be written, whatever its mark.
-/
import Derived.Test.YtlfjkbghgfljaaaDoorStrs
namespace Go.Proofs.YtlfjkbghgfljaaaDoor
open Go.RowKit

/-- a row of bytes that may be written, whatever its mark -/
def HasB (w : World) (g : Nat) (l : List UInt8) : Prop :=
  (∀ j (hj : j < l.length), w.cell? ⟨g, j, none⟩ = some (.int .u8 (l[j].toNat : Int))) ∧ ∀ j, j < l.length → w.frozen? ⟨g, j, none⟩ = false
theorem HasB.set {w : World} {g : Nat} {l : List UInt8} (h : HasB w g l) (k : Nat) (hk : k < l.length) (c : UInt8) (z : Int) (hz : z = (c.toNat : Int)) : HasB (w.setCell ⟨g, k, none⟩ (.int .u8 z)) g (l.set k c) := by
  subst hz
  refine ⟨fun j hj => ?_, fun j hj => ?_⟩
  · rw [List.length_set] at hj
    by_cases e : k = j
    · subst e
      rw [World.cell?_setCell_same _ _ _ (h.1 k hk)]; simp
    · rw [World.cell?_setCell_other _ _ _ _ (by intro e2; cases e2; exact e rfl), h.1 j hj, List.getElem_set_ne e]
  · rw [List.length_set] at hj
    rw [World.frozen?_setCell]; exact h.2 j hj
theorem HasB.below {w w' : World} {g B : Nat} {l : List UInt8} (h : HasB w g l) (hb : Below B w w') (hg : g < B) : HasB w' g l :=
  ⟨fun j hj => (hb.cell (p := ⟨g, j, none⟩) hg).trans (h.1 j hj), fun j hj => (hb.frozen (p := ⟨g, j, none⟩) hg).trans (h.2 j hj)⟩
end Go.Proofs.YtlfjkbghgfljaaaDoor
