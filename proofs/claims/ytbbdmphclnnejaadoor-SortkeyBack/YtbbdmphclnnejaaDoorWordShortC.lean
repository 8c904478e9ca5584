/-
  Contracts of word.appendVarint and word.Short: the short bytes of numbers, appended; and of the examples that each law asks first.
-/
import Derived.Test.YtbbdmphclnnejaaDoorRows
import Derived.Test.YtbbdmphclnnejaaDoorWordNum
import Derived.Test.YtbbdmphclnnejaaDoorVarMath
import Derived.Test.YtbbdmphclnnejaaDoorBytes
namespace Go.Proofs.YtbbdmphclnnejaaDoor
open Go.RowKit

/-- a slice of numbers that lies below block B -/
def NumsAt (w : World) (B : Nat) (A : Option Addr) (ns : List Nat) : Prop :=
  0 < ns.length → ∃ b off, A = some ⟨b, off, none⟩ ∧ b < B ∧ ∀ j (hj : j < ns.length), w.cell? ⟨b, off + j, none⟩ = some (.int .u64 (ns[j] : Int))

theorem NumsAt.of_own {w : World} {base : Nat} {v : Value} {ns : List Nat} (h : OwnN w base v ns) : ∃ A c, v = .slice A ns.length c ∧ NumsAt w w.heap.size A ns := by
  rcases h.2 with ⟨rfl, hl⟩ | ⟨g, cap, cur, rfl, hb, hg, _⟩
  · exact ⟨none, 0, by rw [hl], fun hp => absurd hp (by omega)⟩
  · refine ⟨some ⟨g, 0, none⟩, cap, rfl, fun _ => ⟨g, 0, rfl, (Array.getElem?_eq_some_iff.1 hg).1, fun j hj => ?_⟩⟩
    have := World.ownsRow.cells h (g := g) rfl j (.int .u64 (ns[j] : Int)) (by simp [N64, hj])
    simpa [Addr.add_lit] using this
theorem NumsAt.below {w w' : World} {B : Nat} {A : Option Addr} {ns : List Nat} (h : NumsAt w B A ns) (hb : Below B w w') : NumsAt w' B A ns := fun hl => by
  obtain ⟨b, off, rfl, h1, h2⟩ := h hl
  exact ⟨b, off, rfl, h1, fun j hj => (hb.cell (p := ⟨b, off + j, none⟩) h1).trans (h2 j hj)⟩
theorem NumsAt.more {w : World} {B B' : Nat} {A : Option Addr} {ns : List Nat} (h : NumsAt w B A ns) (hB : B ≤ B') : NumsAt w B' A ns := fun hl => by
  obtain ⟨b, off, rfl, h1, h2⟩ := h hl
  exact ⟨b, off, rfl, by omega, h2⟩

theorem shorts_300 : shorts [300] = [172, 2] := by
  simp only [shorts, List.flatMap_cons, List.flatMap_nil, List.append_nil]
  rw [varint_step 300 (by omega), varint_small (300 / 128) (by omega)]; rfl

end Go.Proofs.YtbbdmphclnnejaaDoor
