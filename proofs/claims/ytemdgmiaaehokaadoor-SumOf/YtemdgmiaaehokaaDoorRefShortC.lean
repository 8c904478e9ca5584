/-
  Contracts of the document's own One and Short: the short bytes of one number and of several.
-/
import Derived.Test.YtemdgmiaaehokaaDoorWordShortC
import Derived.Deep.RegionWith
namespace Go.Proofs.YtemdgmiaaehokaaDoor
open Go.RowKit

/-- one byte, built as a slice, made into a string -/
theorem run_string_one (w : World) (b : Nat) (cap : Nat) (z : Int) (c : UInt8) (hz : z = (c.toNat : Int)) (hc : w.cell? ⟨b, 0, none⟩ = some (.int .u8 z)) :
    (convert 46 9 (.slice (some ⟨b, 0, none⟩) 1 cap)).run Tryd.prog w = .ok (.string ⟨#[c]⟩) w := by
  subst hz
  refine run_convert_bytes_back w 46 9 5 ⟨b, 0, none⟩ cap [c] Tryd.underlying46 Tryd.underlying5 Tryd.underlying9 fun j hj => ?_
  match j, hj with
  | 0, _ => simpa [Addr.add] using hc
theorem str_append (a b : List UInt8) : (⟨a.toArray⟩ : ByteArray) ++ ⟨b.toArray⟩ = ⟨(a ++ b).toArray⟩ := by
  apply ByteArray.ext; simp [ByteArray.data_append]

end Go.Proofs.YtemdgmiaaehokaaDoor
