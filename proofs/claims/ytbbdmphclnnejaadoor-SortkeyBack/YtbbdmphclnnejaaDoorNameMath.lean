/-
  Names, the order of strings, quoted strings and paths, plainly. It speaks of no program.
-/
import Derived.WalkKit
namespace Go.Proofs.YtbbdmphclnnejaaDoor

/-- is the byte a letter? -/
def isL (c : UInt8) : Bool := decide (97 ≤ c.toNat) && decide (c.toNat ≤ 122)
/-- may the byte stand in a name? -/
def isN (c : UInt8) : Bool := isL c || (decide (48 ≤ c.toNat) && decide (c.toNat ≤ 57)) || decide (c.toNat = 95)
theorem isN_of_isL {c : UInt8} (h : isL c = true) : isN c = true := by simp [isN, h]
/-- how many bytes of names stand at the beginning -/
def runN : List UInt8 → Nat
  | [] => 0
  | c :: r => if isN c then runN r + 1 else 0
/-- how far a name goes -/
def rdN : List UInt8 → Nat
  | [] => 0
  | c :: r => if isL c then runN (c :: r) else 0
/-- is it a name? -/
def rightN (l : List UInt8) : Bool := decide (0 < l.length) && decide (l.length ≤ 16) && decide (rdN l = l.length)

theorem runN_eq : ∀ {l : List UInt8} {k : Nat} {c : UInt8}, (∀ x ∈ l.take k, isN x = true) → l[k]? = some c → isN c = false → runN l = k
  | [], _, _, _, h, _ => by simp at h
  | a :: r, 0, c, _, h, hc => by
    simp at h; subst h
    simp [runN, hc]
  | a :: r, k + 1, c, hall, h, hc => by
    have ha : isN a = true := hall a (by simp)
    simp only [runN, ha, if_true]
    rw [runN_eq (l := r) (k := k) (c := c) (fun x hx => hall x (by simp [hx])) (by simpa using h) hc]
theorem runN_all : ∀ {l : List UInt8}, (∀ x ∈ l, isN x = true) → runN l = l.length
  | [], _ => rfl
  | a :: r, h => by
    have ha : isN a = true := h a (by simp)
    simp only [runN, ha, if_true]
    rw [runN_all (l := r) (fun x hx => h x (by simp [hx]))]; rfl
theorem rdN_cons {l : List UInt8} {c : UInt8} (h : l[0]? = some c) : rdN l = if isL c then runN l else 0 := by
  cases l with
  | nil => simp at h
  | cons a r => simp at h; subst h; rfl
theorem runN_le : ∀ l : List UInt8, runN l ≤ l.length
  | [] => by simp [runN]
  | c :: r => by
    have := runN_le r
    unfold runN; split <;> simp <;> omega
theorem rdN_le (l : List UInt8) : rdN l ≤ l.length := by
  cases l with
  | nil => simp [rdN]
  | cons c r => simp only [rdN]; split <;> first | exact runN_le _ | simp
theorem runN_full : ∀ {l : List UInt8}, runN l = l.length → ∀ x ∈ l, isN x = true
  | [], _, _, hx => by cases hx
  | a :: r, h, x, hx => by
    unfold runN at h
    split at h
    · rename_i ha
      simp at h
      rcases List.mem_cons.1 hx with rfl | hx
      · exact ha
      · exact runN_full h x hx
    · simp at h
theorem right_all {l : List UInt8} (h : rightN l = true) : ∀ x ∈ l, isN x = true := by
  simp only [rightN, Bool.and_eq_true, decide_eq_true_eq] at h
  obtain ⟨⟨h0, _⟩, h1⟩ := h
  cases l with
  | nil => intro x hx; cases hx
  | cons c r =>
    simp only [rdN] at h1
    split at h1
    · exact runN_full h1
    · simp at h1
theorem right_nodot {l : List UInt8} (h : rightN l = true) : (46 : UInt8) ∉ l := fun hm => by
  have := right_all h 46 hm
  revert this; decide
theorem right_len {l : List UInt8} (h : rightN l = true) : 0 < l.length ∧ l.length ≤ 16 := by
  simp only [rightN, Bool.and_eq_true, decide_eq_true_eq] at h
  exact h.1

/-- which of two strings stands first -/
def ordN : List UInt8 → List UInt8 → Int
  | [], [] => 0
  | [], _ :: _ => -1
  | _ :: _, [] => 1
  | a :: r, b :: s => if a.toNat < b.toNat then -1 else if b.toNat < a.toNat then 1 else ordN r s
/-- the sign of a number -/
def sgn (z : Int) : Int := if z < 0 then -1 else if 0 < z then 1 else 0
theorem drop_at {l : List UInt8} {k : Nat} {c : UInt8} (h : l[k]? = some c) : l.drop k = c :: l.drop (k + 1) := by
  obtain ⟨hk, h⟩ := List.getElem?_eq_some_iff.1 h
  rw [List.drop_eq_getElem_cons hk, h]
theorem ordN_ne {l m : List UInt8} {k : Nat} {a b : UInt8} (h : l[k]? = some a) (h2 : m[k]? = some b) (hne : a.toNat ≠ b.toNat) : ordN (l.drop k) (m.drop k) = sgn ((a.toNat : Int) - (b.toNat : Int)) := by
  rw [drop_at h, drop_at h2, ordN, sgn]
  by_cases hlt : a.toNat < b.toNat
  · rw [if_pos hlt, if_pos (by omega)]
  · rw [if_neg hlt, if_pos (by omega), if_neg (by omega), if_pos (by omega)]
theorem ordN_lt {l m : List UInt8} {k : Nat} {a b : UInt8} (h : l[k]? = some a) (h2 : m[k]? = some b) (hlt : a.toNat < b.toNat) : ordN (l.drop k) (m.drop k) = -1 := by
  rw [drop_at h, drop_at h2, ordN, if_pos hlt]
theorem ordN_gt {l m : List UInt8} {k : Nat} {a b : UInt8} (h : l[k]? = some a) (h2 : m[k]? = some b) (hlt : b.toNat < a.toNat) : ordN (l.drop k) (m.drop k) = 1 := by
  rw [drop_at h, drop_at h2, ordN, if_neg (by omega), if_pos hlt]
theorem ordN_eq {l m : List UInt8} {k : Nat} {a b : UInt8} (h : l[k]? = some a) (h2 : m[k]? = some b) (he : a.toNat = b.toNat) : ordN (l.drop k) (m.drop k) = ordN (l.drop (k + 1)) (m.drop (k + 1)) := by
  rw [drop_at h, drop_at h2, ordN, if_neg (by omega), if_neg (by omega)]
theorem ordN_end {l m : List UInt8} {k : Nat} (h1 : k ≤ l.length) (h2 : k ≤ m.length) (h : k = l.length ∨ k = m.length) : ordN (l.drop k) (m.drop k) = sgn ((l.length : Int) - (m.length : Int)) := by
  have e1 := @List.length_drop _ k l
  have e2 := @List.length_drop _ k m
  cases hl : l.drop k with
  | nil =>
    rw [hl] at e1; simp at e1
    cases hm : m.drop k with
    | nil => rw [hm] at e2; simp at e2; rw [ordN, sgn, if_neg (by omega), if_neg (by omega)]
    | cons b s => rw [hm] at e2; simp at e2; rw [ordN, sgn, if_pos (by omega)]
  | cons a r =>
    rw [hl] at e1; simp at e1
    cases hm : m.drop k with
    | nil => rw [hm] at e2; simp at e2; rw [ordN, sgn, if_neg (by omega), if_pos (by omega)]
    | cons b s => rw [hm] at e2; simp at e2; omega
theorem ordN_turn : ∀ l m : List UInt8, ordN m l = - ordN l m
  | [], [] => rfl
  | [], _ :: _ => rfl
  | _ :: _, [] => rfl
  | a :: r, b :: s => by
    simp only [ordN]
    rw [ordN_turn r s]
    by_cases h1 : a.toNat < b.toNat
    · rw [if_pos h1, if_neg (by omega), if_pos h1]; rfl
    · by_cases h2 : b.toNat < a.toNat
      · rw [if_pos h2, if_neg h1, if_pos h2]
      · rw [if_neg h2, if_neg h1, if_neg h1, if_neg h2]
theorem ordN_zero : ∀ {l m : List UInt8}, ordN l m = 0 → l = m
  | [], [], _ => rfl
  | [], _ :: _, h => by simp [ordN] at h
  | _ :: _, [], h => by simp [ordN] at h
  | a :: r, b :: s, h => by
    simp only [ordN] at h
    split at h
    · simp at h
    · split at h
      · simp at h
      · rw [ordN_zero h, show a = b from UInt8.toNat_inj.1 (by omega)]
theorem ordN_self : ∀ l : List UInt8, ordN l l = 0
  | [] => rfl
  | a :: r => by simp [ordN, ordN_self r]
theorem ordN_cases (l m : List UInt8) : ordN l m = -1 ∨ ordN l m = 0 ∨ ordN l m = 1 := by
  induction l generalizing m with
  | nil => cases m <;> simp [ordN]
  | cons a r ih =>
    cases m with
    | nil => simp [ordN]
    | cons b s =>
      simp only [ordN]
      split
      · simp
      · split
        · simp
        · exact ih s
theorem ordN_trans : ∀ {l m n : List UInt8}, ordN l m < 0 → ordN m n < 0 → ordN l n < 0
  | [], [], _, h, _ => by simp [ordN] at h
  | [], _ :: _, [], _, h => by simp [ordN] at h
  | [], _ :: _, _ :: _, _, _ => by simp [ordN]
  | _ :: _, [], _, h, _ => by simp [ordN] at h
  | _ :: _, _ :: _, [], _, h => by simp [ordN] at h
  | a :: r, b :: s, c :: t, h, h2 => by
    simp only [ordN] at h h2 ⊢
    by_cases h1 : a.toNat < b.toNat
    · by_cases h3 : b.toNat < c.toNat
      · rw [if_pos (by omega)]; decide
      · by_cases h4 : c.toNat < b.toNat
        · rw [if_neg h3, if_pos h4] at h2; simp at h2
        · rw [if_pos (by omega)]; decide
    · by_cases h5 : b.toNat < a.toNat
      · rw [if_neg h1, if_pos h5] at h; simp at h
      · rw [if_neg h1, if_neg h5] at h
        by_cases h3 : b.toNat < c.toNat
        · rw [if_pos (by omega)]; decide
        · by_cases h4 : c.toNat < b.toNat
          · rw [if_neg h3, if_pos h4] at h2; simp at h2
          · rw [if_neg h3, if_neg h4] at h2
            rw [if_neg (by omega), if_neg (by omega)]
            exact ordN_trans h h2
end Go.Proofs.YtbbdmphclnnejaaDoor
