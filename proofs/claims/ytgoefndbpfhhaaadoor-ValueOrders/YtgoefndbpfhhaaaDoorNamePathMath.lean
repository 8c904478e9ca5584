/-
  Paths, plainly. It speaks of no program.
-/
import Derived.Test.YtgoefndbpfhhaaaDoorNameMath
import Derived.Lib.Bytealg
namespace Go.Proofs.YtgoefndbpfhhaaaDoor

theorem idx_split : ∀ (l : List UInt8) (c : UInt8), (Lib.indexByte l c = -1 ∧ c ∉ l) ∨ ∃ a b, l = a ++ c :: b ∧ c ∉ a ∧ Lib.indexByte l c = (a.length : Int)
  | [], c => .inl ⟨rfl, by simp⟩
  | x :: r, c => by
    by_cases hx : x = c
    · subst hx
      exact .inr ⟨[], r, rfl, by simp, by simp [Lib.indexByte]⟩
    · have hx' : (x == c) = false := by simpa using hx
      rcases idx_split r c with ⟨h1, h2⟩ | ⟨a, b, h1, h2, h3⟩
      · refine .inl ⟨by simp [Lib.indexByte, hx', h1], ?_⟩
        intro hm
        rcases List.mem_cons.1 hm with h | h
        · exact hx h.symm
        · exact h2 h
      · refine .inr ⟨x :: a, b, by rw [h1]; rfl, ?_, ?_⟩
        · intro hm
          rcases List.mem_cons.1 hm with h | h
          · exact hx h.symm
          · exact h2 h
        · have h4 : ((a.length : Int) == -1) = false := by simp
          simp [Lib.indexByte, hx', h3, h4]

open Classical in
/-- the two names of a path -/
noncomputable def sp (l : List UInt8) : List UInt8 × List UInt8 × Bool :=
  if h : ∃ q : List UInt8 × List UInt8, l = q.1 ++ 46 :: q.2 ∧ rightN q.1 = true ∧ rightN q.2 = true then (h.choose.1, h.choose.2, true) else ([], [], false)
theorem dot_inj : ∀ {a b c d : List UInt8}, (46 : UInt8) ∉ a → (46 : UInt8) ∉ c → a ++ 46 :: b = c ++ 46 :: d → a = c ∧ b = d
  | [], b, [], d, _, _, h => ⟨rfl, by simpa using h⟩
  | [], b, y :: c, d, _, h2, h => by
    simp at h
    exact absurd h.1 (fun e => h2 (by rw [← e]; simp))
  | x :: a, b, [], d, h1, _, h => by
    simp at h
    exact absurd h.1 (fun e => h1 (by rw [e]; simp))
  | x :: a, b, y :: c, d, h1, h2, h => by
    simp at h
    obtain ⟨h3, h4⟩ := dot_inj (a := a) (c := c) (fun hm => h1 (List.mem_cons_of_mem _ hm)) (fun hm => h2 (List.mem_cons_of_mem _ hm)) h.2
    exact ⟨by rw [h.1, h3], h4⟩
theorem sp_yes {l a b : List UInt8} (h : l = a ++ 46 :: b) (ha : rightN a = true) (hb : rightN b = true) : sp l = (a, b, true) := by
  have hex : ∃ q : List UInt8 × List UInt8, l = q.1 ++ 46 :: q.2 ∧ rightN q.1 = true ∧ rightN q.2 = true := ⟨(a, b), h, ha, hb⟩
  unfold sp
  rw [dif_pos hex]
  obtain ⟨h2, h3, h4⟩ := hex.choose_spec
  obtain ⟨h5, h6⟩ := dot_inj (right_nodot h3) (right_nodot ha) (h2.symm.trans h)
  rw [h5, h6]
theorem sp_no {l : List UInt8} (h : ∀ a b, l = a ++ 46 :: b → rightN a = true → rightN b = true → False) : sp l = ([], [], false) := by
  unfold sp
  rw [dif_neg]
  rintro ⟨q, h1, h2, h3⟩
  exact h q.1 q.2 h1 h2 h3
theorem sp_none {l : List UInt8} (h : (46 : UInt8) ∉ l) : sp l = ([], [], false) := sp_no fun a b h1 _ _ => h (by rw [h1]; simp)
theorem sp_bad {l a b : List UInt8} (h : l = a ++ 46 :: b) (ha : (46 : UInt8) ∉ a) (hb : rightN a = false ∨ rightN b = false) : sp l = ([], [], false) := sp_no fun c d h1 h2 h3 => by
  obtain ⟨h4, h5⟩ := dot_inj ha (right_nodot h2) (h.symm.trans h1)
  rw [h4, h5, h2, h3] at hb
  rcases hb with hb | hb <;> cases hb
/-- no path ends ahead of place k -/
def Nop (l : List UInt8) (k : Nat) : Prop := ∀ j, j < k → ¬ (l[j]? = some 46 ∧ rightN (l.take j) = true ∧ rightN (l.drop (j + 1)) = true)
theorem split_at {l : List UInt8} {k : Nat} (h : l[k]? = some 46) : l = l.take k ++ 46 :: l.drop (k + 1) := by
  rw [← drop_at h, List.take_append_drop]
theorem Nop.all {l : List UInt8} (h : Nop l l.length) : sp l = ([], [], false) := sp_no fun a b h1 h2 h3 => by
  refine h a.length (by rw [h1]; simp) ⟨by rw [h1]; simp, by rw [h1]; simpa using h2, ?_⟩
  rw [h1]
  have : (a ++ 46 :: b).drop (a.length + 1) = b := by rw [List.drop_append]; simp
  rw [this]; exact h3
theorem Nop.more {l : List UInt8} {k : Nat} (h : Nop l k) (h2 : ¬ (l[k]? = some 46 ∧ rightN (l.take k) = true ∧ rightN (l.drop (k + 1)) = true)) : Nop l (k + 1) := fun j hj => by
  by_cases e : j = k
  · rw [e]; exact h2
  · exact h j (by omega)
end Go.Proofs.YtgoefndbpfhhaaaDoor
