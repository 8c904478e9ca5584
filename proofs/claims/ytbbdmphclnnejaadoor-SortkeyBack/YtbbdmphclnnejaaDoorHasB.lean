/-
  A row of bytes that may be written, whatever its mark.
-/
import Derived.Test.YtbbdmphclnnejaaDoorStrs
namespace Go.Proofs.YtbbdmphclnnejaaDoor
open Go.RowKit

/-- a row of bytes that may be written, whatever its mark -/
def HasB (w : World) (g : Nat) (l : List UInt8) : Prop :=
  (∀ j (hj : j < l.length), w.cell? ⟨g, j, none⟩ = some (.int .u8 (l[j].toNat : Int))) ∧ ∀ j, j < l.length → w.frozen? ⟨g, j, none⟩ = false
theorem HasB.set {w : World} {g : Nat} {l : List UInt8} (h : HasB w g l) (k : Nat) (hk : k < l.length) (c : UInt8) (z : Int) (hz : z = (c.toNat : Int)) : HasB (w.setCell ⟨g, k, none⟩ (.int .u8 z)) g (l.set k c) := by
  subst hz
  refine ⟨fun j hj => ?_, fun j hj => ?_⟩
  · rw [List.length_set] at hj
    by_cases e : k = j
    · subst e
      rw [World.cell?_setCell_same _ _ _ (h.1 k hk)]; simp
    · rw [World.cell?_setCell_other _ _ _ _ (by intro e2; cases e2; exact e rfl), h.1 j hj, List.getElem_set_ne e]
  · rw [List.length_set] at hj
    rw [World.frozen?_setCell]; exact h.2 j hj
theorem HasB.below {w w' : World} {g B : Nat} {l : List UInt8} (h : HasB w g l) (hb : Below B w w') (hg : g < B) : HasB w' g l :=
  ⟨fun j hj => (hb.cell (p := ⟨g, j, none⟩) hg).trans (h.1 j hj), fun j hj => (hb.frozen (p := ⟨g, j, none⟩) hg).trans (h.2 j hj)⟩
theorem HasB.new (w : World) (s : ByteArray) (cap : Nat) (hc : s.size ≤ cap) : HasB (w.drew.alloc (.cells (bytesRow s cap) 5 ((bytesRow s cap).size, (bytesRow s cap).size + 1))) w.heap.size (bs s) := by
  have hsz : (bytesRow s cap).size = cap := by unfold bytesRow; simp; have : s.data.size = s.size := rfl; omega
  refine ⟨fun j hj => ?_, fun j hj => ?_⟩
  · rw [bs_length] at hj
    have := World.cell?_alloc_mark w.drew (bytesRow s cap) 5 ((bytesRow s cap).size, (bytesRow s cap).size + 1) j
    refine this.trans ?_
    rw [bytesRow_at s cap j hj]
    simp [bs]
  · rw [bs_length] at hj
    have := World.frozen?_alloc_mark w.drew (bytesRow s cap) 5 (bytesRow s cap).size ((bytesRow s cap).size + 1) j
    refine this.trans ?_
    rw [hsz]; simp; omega
theorem run_string_has {w : World} {g cap n : Nat} {l : List UInt8} (h : HasB w g l) (hn : n = l.length) :
    (convert 48 9 (.slice (some ⟨g, 0, none⟩) n cap)).run Tryd.prog w = .ok (.string ⟨l.toArray⟩) w := by
  subst hn
  refine run_convert_bytes_back w 48 9 5 ⟨g, 0, none⟩ cap l Tryd.underlying48 Tryd.underlying5 Tryd.underlying9 fun j hj => ?_
  rw [Addr.add_lit, Nat.zero_add]
  exact h.1 j hj

theorem bytes_of (w : World) (s : ByteArray) : ∃ cap w2, (convert 9 48 (.string s)).run Tryd.prog w = .ok (.slice (some ⟨w.heap.size, 0, none⟩) s.size cap) w2 ∧
    HasB w2 w.heap.size (bs s) ∧ Below w.heap.size w w2 ∧ w2.heap.size = w.heap.size + 1 := by
  refine ⟨_, _, run_bytes_of_string w 9 48 5 s Tryd.underlying9 Tryd.underlying48 Tryd.underlying5, HasB.new w s _ (grownCap_ge w s.size 0 5), ?_, ?_⟩
  · exact ((Below.refl w.heap.size w).drew).alloc (Nat.le_refl _) _
  · show (w.heap.push _).size = _
    simp
end Go.Proofs.YtbbdmphclnnejaaDoor
