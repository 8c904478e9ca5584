/-
  Contracts of package name on names and their order: isLetter, isNameByte, Read, Right, sign, Order; and of the document's own letter, Part, Read, Right, Order.
-/
import Derived.Test.YtbbdmphclnnejaaDoorWordNum
import Derived.Test.YtbbdmphclnnejaaDoorStrs
import Derived.Test.YtbbdmphclnnejaaDoorNameMath
import Derived.Deep.RegionWith
import Derived.BigQuiet
import Derived.Deep.QuietTactic
namespace Go.Proofs.YtbbdmphclnnejaaDoor
open Go.RowKit

theorem retB {a b : Bool} (h : a = true ↔ b = true) : Ending.returned (Value.bool a) = .returned (.bool b) := by rw [Bool.eq_iff_iff.2 h]

/-- all bytes ahead of place k may stand in a name -/
def AllN (l : List UInt8) (k : Nat) : Prop := ∀ x ∈ l.take k, isN x = true
theorem AllN.more {l : List UInt8} {k : Nat} {c : UInt8} (h : AllN l k) (hk : l[k]? = some c) (hc : isN c = true) : AllN l (k + 1) := by
  intro x hx
  rw [take_at hk] at hx
  rcases List.mem_append.1 hx with hx | hx
  · exact h x hx
  · simp at hx; subst hx; exact hc

theorem rightN_of {l : List UInt8} (h0 : 0 < l.length) (h1 : l.length ≤ 16) : rightN l = decide (rdN l = l.length) := by simp [rightN, h0, h1]
theorem rightN_long {l : List UInt8} (h1 : 16 < l.length) : rightN l = false := by
  have : decide (l.length ≤ 16) = false := by simp; omega
  simp [rightN, this]
end Go.Proofs.YtbbdmphclnnejaaDoor
