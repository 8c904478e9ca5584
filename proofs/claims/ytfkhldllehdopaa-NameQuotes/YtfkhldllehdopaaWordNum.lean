/-
  Contracts of layer word's functions of numbers alone, and of the document's own: what each returns, and that it leaves the world as it is.
-/
import Derived.Test.YtfkhldllehdopaaRows
import Derived.Test.YtfkhldllehdopaaWordMath
import Derived.WalkKit
import Derived.WalkSpells
import Derived.WalkLawsBesides
import Derived.Lib.Hide
namespace Go.Proofs.Ytfkhldllehdopaa
open Go.RowKit

theorem ret_int {k : IntKind} {a b : Int} (h : a = b) : Ending.returned (.int k a) = .returned (.int k b) := by rw [h]

/-- does n fit b bits? -/
def fitsB (n : Int) (b : Nat) : Bool := low n b == n

theorem fitsB_64 (n : Int) (h1 : -9223372036854775808 ≤ n) (h2 : n < 9223372036854775808) : fitsB n 64 = true := by
  unfold fitsB; rw [low_same n 64 (by omega) (by simpa using h1) (by simpa using h2)]; simp

theorem fitsB_eq (n : Int) (b : Nat) (h : 1 ≤ b) : fitsB n b = (decide (-2 ^ (b - 1) ≤ n) && decide (n < 2 ^ (b - 1))) := by
  unfold fitsB
  rw [Bool.eq_iff_iff]
  simp [low_eq_iff n b h]

theorem low_63 (n : Int) (h1 : -9223372036854775808 ≤ n) (h2 : n < 9223372036854775808) :
    (4611686018427387904 ≤ n → low n 63 = n - 4611686018427387904 - 4611686018427387904) ∧ (n < -4611686018427387904 → low n 63 = n + 4611686018427387904 + 4611686018427387904) ∧
    (-4611686018427387904 ≤ n → n < 4611686018427387904 → low n 63 = n) := by
  unfold low
  simp only [show (63 : Nat) - 1 = 62 from rfl, show (2 : Int) ^ 62 = 4611686018427387904 from rfl, show (2 : Int) ^ 63 = 9223372036854775808 from rfl]
  omega

end Go.Proofs.Ytfkhldllehdopaa
