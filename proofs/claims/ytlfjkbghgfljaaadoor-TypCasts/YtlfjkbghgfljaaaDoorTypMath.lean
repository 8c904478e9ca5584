/-
  The mathematics of column types: which are valid, which as wide as which, the least above two.
-/
import Derived.Test.YtlfjkbghgfljaaaDoorTypWideC
namespace Go.Proofs.YtlfjkbghgfljaaaDoor

theorem numK_iff (k : Int) : numK k = true ↔ k = 1 ∨ k = 2 := by simp [numK]
theorem strK_iff (k : Int) : strK k = true ↔ k = 3 ∨ k = 4 := by simp [strK]
theorem maxK_iff (m : Int) : maxK m = true ↔ 1 ≤ m ∧ m ≤ 120 := by simp [maxK]
theorem rightT_iff (k m : Int) : rightT k m = true ↔ ((k = 1 ∨ k = 2) ∧ m = 0) ∨ ((k = 3 ∨ k = 4) ∧ 1 ≤ m ∧ m ≤ 120) := by
  unfold rightT
  by_cases h : numK k = true
  · rw [h]
    rw [numK_iff] at h
    simp
    omega
  · have h' : numK k = false := by simpa using h
    rw [h']
    rw [numK_iff] at h
    simp only [cond_false, Bool.and_eq_true, strK_iff, maxK_iff]
    omega
theorem wideT_iff (k m k2 m2 : Int) : wideT k m k2 m2 = true ↔ rightT k m = true ∧ rightT k2 m2 = true ∧ k2 ≤ k ∧ ((k = 1 ∨ k = 2) ∨ roomT k2 m2 ≤ m) := by
  unfold wideT
  simp only [Bool.and_eq_true, Bool.or_eq_true, numK_iff, decide_eq_true_eq, and_assoc]
theorem roomT_spec (k m : Int) : (k = 1 → roomT k m = 11) ∧ (k = 2 → roomT k m = 20) ∧ (k ≠ 1 → k ≠ 2 → roomT k m = m) := by
  unfold roomT
  refine ⟨fun h => if_pos h, fun h => by rw [if_neg (by omega), if_pos h], fun h1 h2 => by rw [if_neg h1, if_neg h2]⟩
theorem bool_eq {a b : Bool} (h : a = true ↔ b = true) : a = b := by
  cases a <;> cases b <;> simp_all

/-- the document's own way -/
def rwideT (k m k2 m2 : Int) : Bool := bif k2 == 1 then (decide (k ≤ 2) || decide (11 ≤ m)) else bif k2 == 2 then ((k == 2) || (decide (2 < k) && decide (20 ≤ m))) else bif k2 == 3 then (decide (3 ≤ k) && decide (m2 ≤ m)) else ((k == 4) && decide (m2 ≤ m))
theorem rwideT_eq (k m k2 m2 : Int) (h1 : rightT k m = true) (h2 : rightT k2 m2 = true) : rwideT k m k2 m2 = wideT k m k2 m2 := by
  apply bool_eq
  rw [wideT_iff]
  have r := roomT_spec k2 m2
  simp only [h1, h2, true_and]
  rw [rightT_iff] at h1 h2
  unfold rwideT
  rcases h2 with ⟨h2 | h2, e2⟩ | ⟨h2 | h2, e2⟩
  all_goals
    subst h2
    simp
    simp at r
    omega

/-- to be as wide is an order -/
theorem wide_refl (k m : Int) : wideT k m k m = rightT k m := by
  apply bool_eq
  rw [wideT_iff]
  have r := roomT_spec k m
  constructor
  · exact fun h => h.1
  · intro h
    refine ⟨h, h, by omega, ?_⟩
    rw [rightT_iff] at h
    omega
theorem wide_anti (k m k2 m2 : Int) (h1 : wideT k m k2 m2 = true) (h2 : wideT k2 m2 k m = true) : k = k2 ∧ m = m2 := by
  rw [wideT_iff] at h1 h2
  obtain ⟨a, b, c, d⟩ := h1
  obtain ⟨_, _, c', d'⟩ := h2
  have r1 := roomT_spec k m
  have r2 := roomT_spec k2 m2
  rw [rightT_iff] at a b
  omega
theorem wide_trans (k m k2 m2 k3 m3 : Int) (h1 : wideT k m k2 m2 = true) (h2 : wideT k2 m2 k3 m3 = true) : wideT k m k3 m3 = true := by
  rw [wideT_iff] at h1 h2 ⊢
  obtain ⟨a, b, c, d⟩ := h1
  obtain ⟨_, b', c', d'⟩ := h2
  have r2 := roomT_spec k2 m2
  have r3 := roomT_spec k3 m3
  refine ⟨a, b', by omega, ?_⟩
  rw [rightT_iff] at a b b'
  omega
theorem wide_right {k m k2 m2 : Int} (h : wideT k m k2 m2 = true) : rightT k m = true ∧ rightT k2 m2 = true := by
  rw [wideT_iff] at h
  exact ⟨h.1, h.2.1⟩

/-- the least above two -/
def joinK (k k2 : Int) : Int := if k2 ≤ k then k else k2
def joinM (k m k2 m2 : Int) : Int := if numK (joinK k k2) = true then 0 else max (roomT k m) (roomT k2 m2)
theorem join_spec (k m k2 m2 : Int) (h1 : rightT k m = true) (h2 : rightT k2 m2 = true) :
    wideT (joinK k k2) (joinM k m k2 m2) k m = true ∧ wideT (joinK k k2) (joinM k m k2 m2) k2 m2 = true ∧
    ∀ k3 m3, wideT k3 m3 k m = true → wideT k3 m3 k2 m2 = true → wideT k3 m3 (joinK k k2) (joinM k m k2 m2) = true := by
  have r1 := roomT_spec k m
  have r2 := roomT_spec k2 m2
  have hj : (k2 ≤ k ∧ joinK k k2 = k) ∨ (k < k2 ∧ joinK k k2 = k2) := by
    unfold joinK
    split <;> omega
  have hm : ((joinK k k2 = 1 ∨ joinK k k2 = 2) ∧ joinM k m k2 m2 = 0) ∨ (¬ (joinK k k2 = 1 ∨ joinK k k2 = 2) ∧ joinM k m k2 m2 = max (roomT k m) (roomT k2 m2)) := by
    unfold joinM
    by_cases h : numK (joinK k k2) = true
    · exact .inl ⟨(numK_iff _).1 h, if_pos h⟩
    · exact .inr ⟨fun h' => h ((numK_iff _).2 h'), if_neg h⟩
  generalize joinK k k2 = j at hj hm ⊢
  generalize joinM k m k2 m2 = n at hm ⊢
  have r3 := roomT_spec j n
  have q1 := (rightT_iff k m).1 h1
  have q2 := (rightT_iff k2 m2).1 h2
  have hr : rightT j n = true := by
    rw [rightT_iff]
    omega
  refine ⟨?_, ?_, ?_⟩
  · rw [wideT_iff]
    exact ⟨hr, h1, by omega, by omega⟩
  · rw [wideT_iff]
    exact ⟨hr, h2, by omega, by omega⟩
  · intro k3 m3 a b
    rw [wideT_iff] at a b ⊢
    obtain ⟨a1, _, a3, a4⟩ := a
    obtain ⟨_, _, b3, b4⟩ := b
    have q3 := (rightT_iff k3 m3).1 a1
    exact ⟨a1, hr, by omega, by omega⟩
theorem join_right (k m k2 m2 : Int) (h1 : rightT k m = true) (h2 : rightT k2 m2 = true) : rightT (joinK k k2) (joinM k m k2 m2) = true := (wide_right (join_spec k m k2 m2 h1 h2).1).1
end Go.Proofs.YtlfjkbghgfljaaaDoor
