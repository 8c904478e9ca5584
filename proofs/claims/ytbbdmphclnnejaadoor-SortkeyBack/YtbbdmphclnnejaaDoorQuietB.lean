/-
  A region that draws its order, whose own operations only read no memory that a callee makes and whose callees may make memory: walked once, in the order of the text.
-/
import Derived.Test.YtbbdmphclnnejaaDoorRows
import Derived.WalkKit
import Derived.Deep.QuietTactic
import Derived.Below
namespace Go.Proofs.YtbbdmphclnnejaaDoor
open Go.RowKit

/-- a world in which all that lay below B in w lies as it was -/
def BelowBy (B : Nat) (w : World) : Type := { x : World // Below B w x }
def BelowBy.x {B : Nat} {w : World} (p : BelowBy B w) : World := p.1
theorem BelowBy.h {B : Nat} {w : World} (p : BelowBy B w) : Below B w p.x := p.2
theorem BelowBy.step {B : Nat} {w w' : World} (p : BelowBy B w) (hB : B ≤ w.heap.size) (h : Below p.x.heap.size p.x w') : ∃ q : BelowBy B w, w' = q.x :=
  ⟨⟨w', p.h.trans (h.mono (Nat.le_trans hB p.h.size))⟩, rfl⟩
theorem wp_region_below {P : Program} {id : Nat} {Q : Exit → Act → World → Prop} {a : Act} {w : World} {l : List Oper} (B : Nat) (hm : P.follows .mixedOrders = true) (hB : Region.lexB .any l.toArray = true)
    (h : wpQuiet P l.toArray (fun w' => ∃ p : BelowBy B w, w' = p.x) (fun a' => ∀ w', (∃ p : BelowBy B w, w' = p.x) → Q .normal a' w') l a) : (Code.region id l.toArray true).wp P Q a w :=
  wp_region_quiet (C := fun w' => ∃ p : BelowBy B w, w' = p.x) hm hB ⟨⟨_, (Below.refl B w).drew⟩, rfl⟩ (by simpa using h)
end Go.Proofs.YtbbdmphclnnejaaDoor
