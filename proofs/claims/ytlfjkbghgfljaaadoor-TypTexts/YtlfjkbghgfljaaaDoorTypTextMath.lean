/-
  The mathematics of a type's text: what is read at the beginning of a text, and that what is written is read back.
-/
import Derived.Test.YtlfjkbghgfljaaaDoorTypMath
import Derived.Test.YtlfjkbghgfljaaaDoorValMath
import Derived.Test.YtlfjkbghgfljaaaDoorNameMath
namespace Go.Proofs.YtlfjkbghgfljaaaDoor

def nmI : List UInt8 := [105, 110, 116]
def nmL : List UInt8 := [108, 111, 110, 103]
def nmT : List UInt8 := [116, 101, 120, 116]
def nmB : List UInt8 := [98, 121, 116, 101, 115]
/-- the kind of a name, or 0 -/
def kindL (l : List UInt8) : Nat := if l = nmI then 1 else if l = nmL then 2 else if l = nmT then 3 else if l = nmB then 4 else 0
theorem kindL_cases (l : List UInt8) : (l = nmI ∧ kindL l = 1) ∨ (l = nmL ∧ kindL l = 2) ∨ (l = nmT ∧ kindL l = 3) ∨ (l = nmB ∧ kindL l = 4) ∨ (l ≠ nmI ∧ l ≠ nmL ∧ l ≠ nmT ∧ l ≠ nmB ∧ kindL l = 0) := by
  by_cases h1 : l = nmI
  · subst h1; exact .inl ⟨rfl, by decide⟩
  by_cases h2 : l = nmL
  · subst h2; exact .inr (.inl ⟨rfl, by decide⟩)
  by_cases h3 : l = nmT
  · subst h3; exact .inr (.inr (.inl ⟨rfl, by decide⟩))
  by_cases h4 : l = nmB
  · subst h4; exact .inr (.inr (.inr (.inl ⟨rfl, by decide⟩)))
  exact .inr (.inr (.inr (.inr ⟨h1, h2, h3, h4, by unfold kindL; rw [if_neg h1, if_neg h2, if_neg h3, if_neg h4]⟩)))

/-- the Max at the beginning of a text, its length, 0 or the error -/
def rmax2 (l : List UInt8) (z : Int) (k e : Nat) : Int × Nat × Nat :=
  if e = 0 then (if l[1 + k]? = some 41 then (if maxK z = true then (z, k + 2, 0) else (0, 0, 10)) else (0, 0, 5)) else (0, 0, e)
def rmaxW (l : List UInt8) : Int × Nat × Nat := if l[0]? = some 40 then rmax2 l (numW (l.drop 1)).1 (numW (l.drop 1)).2.1 (numW (l.drop 1)).2.2 else (0, 0, 5)
theorem rmaxW_no {l : List UInt8} (h : l[0]? ≠ some 40) : rmaxW l = (0, 0, 5) := if_neg h
theorem rmaxW_yes {l : List UInt8} {z : Int} {k e : Nat} (h : l[0]? = some 40) (hn : numW (l.drop 1) = (z, k, e)) : rmaxW l = rmax2 l z k e := by
  unfold rmaxW
  rw [if_pos h, hn]
theorem rmaxW_ok {l : List UInt8} {z : Int} {k : Nat} (h : rmaxW l = (z, k, 0)) : 1 ≤ z ∧ z ≤ 120 ∧ k ≤ l.length := by
  unfold rmaxW at h
  split at h
  · obtain ⟨⟨z', k', e'⟩, hn⟩ : ∃ r, numW (l.drop 1) = r := ⟨_, rfl⟩
    rw [hn] at h
    unfold rmax2 at h
    simp only at h
    split at h
    · split at h
      · split at h
        · rename_i h1 h2 h3
          cases h
          rw [maxK_iff] at h3
          obtain ⟨hl, _⟩ := List.getElem?_eq_some_iff.1 h2
          exact ⟨h3.1, h3.2, by omega⟩
        · cases h
      · cases h
    · rename_i h1
      have : e' = 0 := by cases h; rfl
      exact absurd this h1
  · cases h
/-- the type at the beginning of a text, its length, 0 or the error -/
def readT2 (n c : Nat) (m : Int) (k e : Nat) : (Int × Int) × Nat × Nat := if e = 0 then (((c : Int), m), n + k, 0) else ((0, 0), 0, e)
def readT (l : List UInt8) : (Int × Int) × Nat × Nat :=
  if kindL (l.take (rdN l)) = 1 then ((1, 0), rdN l, 0) else if kindL (l.take (rdN l)) = 2 then ((2, 0), rdN l, 0) else if kindL (l.take (rdN l)) = 0 then ((0, 0), 0, 5) else
    readT2 (rdN l) (kindL (l.take (rdN l))) (rmaxW (l.drop (rdN l))).1 (rmaxW (l.drop (rdN l))).2.1 (rmaxW (l.drop (rdN l))).2.2
theorem readT_1 {l : List UInt8} (h : kindL (l.take (rdN l)) = 1) : readT l = ((1, 0), rdN l, 0) := if_pos h
theorem readT_2 {l : List UInt8} (h : kindL (l.take (rdN l)) = 2) : readT l = ((2, 0), rdN l, 0) := by unfold readT; rw [if_neg (by omega), if_pos h]
theorem readT_0 {l : List UInt8} (h : kindL (l.take (rdN l)) = 0) : readT l = ((0, 0), 0, 5) := by unfold readT; rw [if_neg (by omega), if_neg (by omega), if_pos h]
theorem readT_s {l : List UInt8} {c : Nat} {m : Int} {k e : Nat} (h : kindL (l.take (rdN l)) = c) (hc : c = 3 ∨ c = 4) (hr : rmaxW (l.drop (rdN l)) = (m, k, e)) : readT l = readT2 (rdN l) c m k e := by
  unfold readT
  rw [if_neg (by omega), if_neg (by omega), if_neg (by omega), h, hr]
def parseT2 (l : List UInt8) (t : Int × Int) (k e : Nat) : (Int × Int) × Nat := if e = 0 then (if k < l.length then ((0, 0), 6) else (t, 0)) else ((0, 0), e)
def parseT (l : List UInt8) : (Int × Int) × Nat := parseT2 l (readT l).1 (readT l).2.1 (readT l).2.2
theorem parseT_eq {l : List UInt8} {t : Int × Int} {k e : Nat} (h : readT l = (t, k, e)) : parseT l = parseT2 l t k e := by unfold parseT; rw [h]
theorem readT_err {l : List UInt8} {t : Int × Int} {k e : Nat} (h : readT l = (t, k, e)) (he : e ≠ 0) : t = (0, 0) ∧ k = 0 := by
  unfold readT readT2 at h
  split at h
  · cases h; exact absurd rfl he
  · split at h
    · cases h; exact absurd rfl he
    · split at h
      · cases h; exact ⟨rfl, rfl⟩
      · split at h
        · cases h; exact absurd rfl he
        · cases h; exact ⟨rfl, rfl⟩

/-- the text of a type -/
def prT (k m : Int) : List UInt8 := if k = 1 then nmI else if k = 2 then nmL else if k = 3 then nmT ++ (40 :: (dz m ++ [41])) else nmB ++ (40 :: (dz m ++ [41]))
theorem runN_app (l : List UInt8) (r : List UInt8) (h : ∀ x ∈ l, isN x = true) : runN (l ++ (40 :: r)) = l.length := by
  refine runN_eq (c := 40) (fun x hx => ?_) (by simp) (by decide)
  rw [List.take_left] at hx
  exact h x hx
theorem print_readT {k m : Int} (hr : rightT k m = true) : readT (prT k m) = ((k, m), (prT k m).length, 0) := by
  rw [rightT_iff] at hr
  have str : ∀ (nm : List UInt8) (c : Nat), (∀ x ∈ nm, isN x = true) → (∃ a r, nm = a :: r ∧ isL a = true) → kindL nm = c → (c = 3 ∨ c = 4) → 1 ≤ m → m ≤ 120 →
      readT (nm ++ (40 :: (dz m ++ [41]))) = (((c : Int), m), (nm ++ (40 :: (dz m ++ [41]))).length, 0) := by
    intro nm c hn hl hk hc h1 h2
    have hrd : rdN (nm ++ (40 :: (dz m ++ [41]))) = nm.length := by
      obtain ⟨a, r, e, hL⟩ := hl
      rw [rdN_cons (c := a) (by rw [e]; rfl), if_pos hL]
      exact runN_app _ _ hn
    have ht : (nm ++ (40 :: (dz m ++ [41]))).take (rdN (nm ++ (40 :: (dz m ++ [41])))) = nm := by rw [hrd, List.take_left]
    have hd : (nm ++ (40 :: (dz m ++ [41]))).drop (rdN (nm ++ (40 :: (dz m ++ [41])))) = 40 :: (dz m ++ [41]) := by rw [hrd, List.drop_left]
    have hnum : numW ((40 :: (dz m ++ [41])).drop 1) = (m, (dz m).length, 0) := num_dz (by omega) (by omega) (fun x hx => by simp at hx; subst hx; decide)
    have hmx : rmaxW (40 :: (dz m ++ [41])) = (m, (dz m).length + 2, 0) := by
      rw [rmaxW_yes (by rfl) hnum]
      unfold rmax2
      rw [if_pos rfl, if_pos, if_pos ((maxK_iff m).2 ⟨h1, h2⟩)]
      rw [Nat.add_comm, List.getElem?_cons_succ, List.getElem?_append_right (Nat.le_refl _), Nat.sub_self]
      rfl
    have hmx' : rmaxW ((nm ++ (40 :: (dz m ++ [41]))).drop (rdN (nm ++ (40 :: (dz m ++ [41]))))) = (m, (dz m).length + 2, 0) := by rw [hd]; exact hmx
    rw [readT_s (c := c) (by rw [ht]; exact hk) hc hmx', hrd]
    unfold readT2
    rw [if_pos rfl]
    simp
  rcases hr with ⟨rfl | rfl, rfl⟩ | ⟨rfl | rfl, h1, h2⟩
  · decide
  · decide
  · exact str nmT 3 (by decide) ⟨_, _, rfl, by decide⟩ (by decide) (.inl rfl) h1 h2
  · exact str nmB 4 (by decide) ⟨_, _, rfl, by decide⟩ (by decide) (.inr rfl) h1 h2
theorem print_parseT {k m : Int} (hr : rightT k m = true) : parseT (prT k m) = ((k, m), 0) := by
  rw [parseT_eq (print_readT hr)]
  unfold parseT2
  rw [if_pos rfl, if_neg (by omega)]
theorem prT_len {k m : Int} (hr : rightT k m = true) : (prT k m).length ≤ 30 := by
  rw [rightT_iff] at hr
  have hd : 1 ≤ m ∧ m ≤ 120 → (dz m).length ≤ 20 := fun h => dz_len m (by omega) (by omega)
  rcases hr with ⟨rfl | rfl, rfl⟩ | ⟨rfl | rfl, h⟩
  · decide
  · decide
  · have := hd h
    simp [prT, nmT]; omega
  · have := hd h
    simp [prT, nmB]; omega
end Go.Proofs.YtlfjkbghgfljaaaDoor
