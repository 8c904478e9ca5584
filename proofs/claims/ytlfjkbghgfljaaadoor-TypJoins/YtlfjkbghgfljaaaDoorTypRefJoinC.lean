/-
  The contract of the document's own Join: the least type out of the list of all.
-/
import Derived.Test.YtlfjkbghgfljaaaDoorTypRows
import Derived.Test.YtlfjkbghgfljaaaDoorTypJoinC
import Derived.Test.YtlfjkbghgfljaaaDoorTypRefWideC
namespace Go.Proofs.YtlfjkbghgfljaaaDoor
open Go.RowKit

def bset (o : Option (Int × Int)) (t : Int × Int) : Option (Int × Int) := match o with | none => some t | some b => bif wideT b.1 b.2 t.1 t.2 then some t else some b
def bstep (k m k2 m2 : Int) (o : Option (Int × Int)) (t : Int × Int) : Option (Int × Int) :=
  bif wideT t.1 t.2 k m then bif wideT t.1 t.2 k2 m2 then bset o t else o else o
def best (k m k2 m2 : Int) (l : List (Int × Int)) : Option (Int × Int) := l.foldl (bstep k m k2 m2) none
theorem best_more {k m k2 m2 : Int} {j : Nat} {t : Int × Int} (h : allT[j]? = some t) : best k m k2 m2 (allT.take (j + 1)) = bstep k m k2 m2 (best k m k2 m2 (allT.take j)) t := by
  unfold best
  rw [List.take_add_one, h]
  simp
theorem best_inv (k m k2 m2 : Int) (h1 : rightT k m = true) (h2 : rightT k2 m2 = true) : ∀ (l : List (Int × Int)) (o : Option (Int × Int)),
    (∀ b, o = some b → wideT b.1 b.2 k m = true ∧ wideT b.1 b.2 k2 m2 = true) → ((joinK k k2, joinM k m k2 m2) ∈ l ∨ o = some (joinK k k2, joinM k m k2 m2)) →
    l.foldl (bstep k m k2 m2) o = some (joinK k k2, joinM k m k2 m2) := by
  obtain ⟨j1, j2, j3⟩ := join_spec k m k2 m2 h1 h2
  intro l
  induction l with
  | nil =>
    intro o _ h
    rcases h with h | h
    · cases h
    · exact h
  | cons t r ih =>
    intro o ho h
    rw [List.foldl_cons]
    have hkeep : ∀ b, bstep k m k2 m2 o t = some b → wideT b.1 b.2 k m = true ∧ wideT b.1 b.2 k2 m2 = true := by
      intro b hb
      unfold bstep bset at hb
      cases x1 : wideT t.1 t.2 k m
      · rw [x1] at hb; exact ho b hb
      cases x2 : wideT t.1 t.2 k2 m2
      · rw [x1, x2] at hb; exact ho b hb
      rw [x1, x2] at hb
      cases o with
      | none => simp at hb; subst hb; exact ⟨x1, x2⟩
      | some b' =>
        cases x3 : wideT b'.1 b'.2 t.1 t.2
        · simp [x3] at hb; subst hb; exact ho b' rfl
        · simp [x3] at hb; subst hb; exact ⟨x1, x2⟩
    refine ih _ hkeep ?_
    by_cases hJ : o = some (joinK k k2, joinM k m k2 m2)
    · refine .inr ?_
      subst hJ
      unfold bstep bset
      cases x1 : wideT t.1 t.2 k m
      · rfl
      cases x2 : wideT t.1 t.2 k2 m2
      · rfl
      cases x3 : wideT (joinK k k2) (joinM k m k2 m2) t.1 t.2
      · simp [x3]
      · have := wide_anti _ _ _ _ x3 (j3 t.1 t.2 x1 x2)
        simp [x3]
        rw [this.1, this.2]
    · rcases h with h | h
      · rcases List.mem_cons.1 h with h | h
        · refine .inr ?_
          subst h
          unfold bstep bset
          rw [j1, j2]
          cases o with
          | none => rfl
          | some b =>
            obtain ⟨a1, a2⟩ := ho b rfl
            simp [j3 b.1 b.2 a1 a2]
        · exact .inl h
      · exact absurd h hJ
theorem preT_num (k : Nat) : (1, 0) ∈ preT k ∧ (2, 0) ∈ preT k := by
  induction k with
  | zero => exact ⟨by simp [preT], by simp [preT]⟩
  | succ k ih => exact ⟨by simp [preT, ih.1], by simp [preT, ih.2]⟩
theorem preT_str (k i : Nat) (h1 : 1 ≤ i) (h2 : i ≤ k) : ((3 : Int), (i : Int)) ∈ preT k ∧ ((4 : Int), (i : Int)) ∈ preT k := by
  induction k with
  | zero => omega
  | succ k ih =>
    by_cases h : i = k + 1
    · subst h
      exact ⟨by simp [preT], by simp [preT]⟩
    · obtain ⟨a, b⟩ := ih (by omega)
      exact ⟨List.mem_append_left _ a, List.mem_append_left _ b⟩
theorem mem_allT (k m : Int) (h : rightT k m = true) : (k, m) ∈ allT := by
  rw [rightT_iff] at h
  rcases h with ⟨rfl | rfl, rfl⟩ | ⟨rfl | rfl, h1, h2⟩
  · exact (preT_num 120).1
  · exact (preT_num 120).2
  · have := (preT_str 120 m.toNat (by omega) (by omega)).1
    rwa [show ((m.toNat : Nat) : Int) = m by omega] at this
  · have := (preT_str 120 m.toNat (by omega) (by omega)).2
    rwa [show ((m.toNat : Nat) : Int) = m by omega] at this
theorem best_all (k m k2 m2 : Int) (h1 : rightT k m = true) (h2 : rightT k2 m2 = true) : best k m k2 m2 allT = some (joinK k k2, joinM k m k2 m2) :=
  best_inv k m k2 m2 h1 h2 allT none (fun b hb => by cases hb) (.inl (mem_allT _ _ (join_right k m k2 m2 h1 h2)))
theorem allT_length : allT.length = 242 := preT_length 120
/-- the best of the first j, by its laws alone -/
theorem best_ex (k m k2 m2 : Int) (h1 : rightT k m = true) (h2 : rightT k2 m2 = true) : ∃ B : Nat → Option (Int × Int), B 0 = none ∧ (∀ j t, allT[j]? = some t → B (j + 1) = bstep k m k2 m2 (B j) t) ∧ B 242 = some (joinK k k2, joinM k m k2 m2) :=
  ⟨fun j => best k m k2 m2 (allT.take j), rfl, fun _ _ h => best_more h, by
    show best k m k2 m2 (allT.take 242) = _
    rw [List.take_of_length_le (by rw [allT_length]; omega)]
    exact best_all k m k2 m2 h1 h2⟩

/-- the best so far -/
def bK (o : Option (Int × Int)) : Int := match o with | none => 0 | some t => t.1
def bM (o : Option (Int × Int)) : Int := match o with | none => 0 | some t => t.2
/-- what the loop finds in memory -/
def RJ (w wr : World) (g b : Nat) (k m k2 m2 : Int) (o : Option (Int × Int)) : Prop :=
  BxJ w wr (.int .i64 k) (.int .i64 m) (.int .i64 k2) (.int .i64 m2) (.int .i64 0) (.int .i64 0) ∧ Blk2 wr b (.int .i64 (bK o)) (.int .i64 (bM o)) ∧
  (∀ i t, allT[i]? = some t → wr.cell? ⟨g, 2 * i, none⟩ = some (.int .i64 t.1) ∧ wr.cell? ⟨g, 2 * i + 1, none⟩ = some (.int .i64 t.2)) ∧ g < b ∧ b < wr.heap.size ∧ w.heap.size + 2 < b
theorem RJ.step {w wr w2 : World} {g b : Nat} {k m k2 m2 : Int} {o : Option (Int × Int)} (h : RJ w wr g b k m k2 m2 o) (hb : Below wr.heap.size wr w2) : RJ w w2 g b k m k2 m2 o := by
  obtain ⟨h1, h2, h3, h4, h5, h6⟩ := h
  have := hb.size
  exact ⟨h1.step hb, h2.below hb h5, fun i t hi => ⟨(hb.cell (p := ⟨g, 2 * i, none⟩) (by show g < _; omega)).trans (h3 i t hi).1, (hb.cell (p := ⟨g, 2 * i + 1, none⟩) (by show g < _; omega)).trans (h3 i t hi).2⟩, h4, by omega, h6⟩
theorem RJ.set {w wr : World} {g b : Nat} {k m k2 m2 : Int} {o : Option (Int × Int)} (h : RJ w wr g b k m k2 m2 o) (tk tm : Int) :
    RJ w ((wr.setCell ⟨b, 0, none⟩ (.int .i64 tk)).setCell ⟨b, 1, none⟩ (.int .i64 tm)) g b k m k2 m2 (some (tk, tm)) := by
  obtain ⟨⟨q1, q2, q3, q4, q5⟩, h2, h3, h4, h5, h6⟩ := h
  have hb : Below b wr ((wr.setCell ⟨b, 0, none⟩ (.int .i64 tk)).setCell ⟨b, 1, none⟩ (.int .i64 tm)) := by go_grown
  have := hb.size
  refine ⟨⟨q1.below hb (by omega), q2.below hb (by omega), q3.below hb (by omega), by omega, q5.trans (hb.mono (by omega))⟩, h2.set2, fun i t hi => ⟨(hb.cell (p := ⟨g, 2 * i, none⟩) h4).trans (h3 i t hi).1, (hb.cell (p := ⟨g, 2 * i + 1, none⟩) h4).trans (h3 i t hi).2⟩, h4, by omega, h6⟩
end Go.Proofs.YtlfjkbghgfljaaaDoor
