/-
  The mathematics of the next text (layer 7): the least text behind all that begin with one.
-/
import Derived.Test.YtbbdmphclnnejaaDoorNameMath
namespace Go.Proofs.YtbbdmphclnnejaaDoor

/-- the least text behind all that begin with this one -/
def nxt : List UInt8 → Option (List UInt8)
  | [] => none
  | c :: r => match nxt r with
    | some q => some (c :: q)
    | none => if c = 255 then none else some [c + 1]
theorem nxt_255 : ∀ l : List UInt8, nxt (l ++ [255]) = nxt l
  | [] => by simp [nxt]
  | c :: r => by rw [List.cons_append, nxt, nxt, nxt_255 r]
theorem nxt_snoc {c : UInt8} (h : c ≠ 255) : ∀ l : List UInt8, nxt (l ++ [c]) = some (l ++ [c + 1])
  | [] => by simp [nxt, h]
  | d :: r => by rw [List.cons_append, nxt, nxt_snoc h r]; rfl
theorem inc_toNat {c : UInt8} (h : c ≠ 255) : (c + 1).toNat = c.toNat + 1 := by
  have h1 : c.toNat < 256 := c.toNat_lt
  have h2 : c.toNat ≠ 255 := fun e => h (UInt8.toNat_inj.1 e)
  rw [UInt8.toNat_add]
  show (c.toNat + 1) % 256 = _
  omega
theorem nxt_above : ∀ {l t : List UInt8}, nxt l = some t → ∀ more, ordN (l ++ more) t = -1
  | [], _, h, _ => by cases h
  | c :: r, t, h, more => by
    rw [nxt] at h
    cases hr : nxt r with
    | some q =>
      rw [hr] at h
      cases h
      rw [List.cons_append, ordN, if_neg (by omega), if_neg (by omega)]
      exact nxt_above hr more
    | none =>
      rw [hr] at h
      by_cases hc : c = 255
      · simp [hc] at h
      · simp [hc] at h
        subst h
        rw [List.cons_append, ordN, if_pos (by rw [inc_toNat hc]; omega)]
theorem nxt_none : ∀ {l : List UInt8}, nxt l = none → ∀ o, (∃ m, o = l ++ m) ∨ ordN o l = -1
  | [], _, o => .inl ⟨o, rfl⟩
  | c :: r, h, o => by
    rw [nxt] at h
    cases hr : nxt r with
    | some q => rw [hr] at h; cases h
    | none =>
      rw [hr] at h
      by_cases hc : c = 255
      · subst hc
        cases o with
        | nil => exact .inr rfl
        | cons d o =>
          have hd : d.toNat < 256 := d.toNat_lt
          by_cases h1 : d = 255
          · subst h1
            rcases nxt_none hr o with ⟨m, rfl⟩ | h2
            · exact .inl ⟨m, rfl⟩
            · exact .inr (by rw [ordN, if_neg (by omega), if_neg (by omega)]; exact h2)
          · have : d.toNat ≠ 255 := fun e => h1 (UInt8.toNat_inj.1 e)
            exact .inr (by rw [ordN, if_pos (by show d.toNat < 255; omega)])
      · simp [hc] at h
theorem nxt_least : ∀ {l t : List UInt8}, nxt l = some t → ∀ o, 0 ≤ ordN o t ∨ (∃ m, o = l ++ m) ∨ ordN o l = -1
  | [], _, h, _ => by cases h
  | c :: r, t, h, o => by
    rw [nxt] at h
    cases o with
    | nil => exact .inr (.inr rfl)
    | cons d o =>
      by_cases h1 : d.toNat < c.toNat
      · exact .inr (.inr (by rw [ordN, if_pos h1]))
      · by_cases h2 : c.toNat < d.toNat
        · refine .inl ?_
          cases hr : nxt r with
          | some q =>
            rw [hr] at h
            cases h
            rw [ordN, if_neg h1, if_pos h2]; decide
          | none =>
            rw [hr] at h
            by_cases hc : c = 255
            · simp [hc] at h
            · simp [hc] at h
              subst h
              rw [ordN, inc_toNat hc, if_neg (by omega)]
              split
              · decide
              · cases o with
                | nil => decide
                | cons e o => simp [ordN]
        · obtain rfl : d = c := UInt8.toNat_inj.1 (by omega)
          have skip : ∀ q, ordN (d :: o) (d :: q) = ordN o q := fun q => by rw [ordN, if_neg (by omega), if_neg (by omega)]
          cases hr : nxt r with
          | some q =>
            rw [hr] at h
            cases h
            rcases nxt_least hr o with h3 | ⟨m, rfl⟩ | h3
            · exact .inl (by rw [skip]; exact h3)
            · exact .inr (.inl ⟨m, rfl⟩)
            · exact .inr (.inr (by rw [skip]; exact h3))
          | none =>
            rcases nxt_none hr o with ⟨m, rfl⟩ | h3
            · exact .inr (.inl ⟨m, rfl⟩)
            · exact .inr (.inr (by rw [skip]; exact h3))
theorem nxt_len : ∀ {l t : List UInt8}, nxt l = some t → t.length ≤ l.length
  | [], _, h => by cases h
  | c :: r, t, h => by
    rw [nxt] at h
    cases hr : nxt r with
    | some q =>
      rw [hr] at h
      cases h
      have := nxt_len hr
      simp; omega
    | none =>
      rw [hr] at h
      by_cases hc : c = 255
      · simp [hc] at h
      · simp [hc] at h
        subst h
        simp
/-- what Next returns -/
def nextK (l : List UInt8) : List UInt8 × Bool := match nxt l with
  | none => ([], false)
  | some t => (t, true)
end Go.Proofs.YtbbdmphclnnejaaDoor
