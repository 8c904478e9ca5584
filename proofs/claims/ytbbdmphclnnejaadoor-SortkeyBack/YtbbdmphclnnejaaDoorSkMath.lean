/-
  The mathematics of keys (layer 7): the key of a value, its order, no key begins with another one.
-/
import Derived.Test.YtbbdmphclnnejaaDoorNameMath
import Derived.Test.YtbbdmphclnnejaaDoorFixMath
import Derived.Test.YtbbdmphclnnejaaDoorValMath
import Derived.Test.YtbbdmphclnnejaaDoorValOrdC
import Derived.Test.YtbbdmphclnnejaaDoorValRightC
namespace Go.Proofs.YtbbdmphclnnejaaDoor

theorem cmpI_lt {a b : Int} (h : a < b) : cmpI a b = -1 := if_pos h
theorem cmpI_gt {a b : Int} (h : b < a) : cmpI a b = 1 := by unfold cmpI; rw [if_neg (by omega), if_pos h]
theorem cmpI_add (a b c : Int) : cmpI (a + c) (b + c) = cmpI a b := by
  unfold cmpI
  by_cases h1 : a < b
  · rw [if_pos h1, if_pos (by omega)]
  · by_cases h2 : b < a
    · rw [if_neg h1, if_pos h2, if_neg (by omega), if_pos (by omega)]
    · rw [if_neg h1, if_neg h2, if_neg (by omega), if_neg (by omega)]
/-- the most significant byte first -/
def be (w n : Nat) : List UInt8 := (le w n).reverse
theorem be_succ (w n : Nat) : be (w + 1) n = UInt8.ofNat (n / 256 ^ w % 256) :: be w n := by
  unfold be
  rw [le_snoc, List.reverse_append]; rfl
theorem be_length (w n : Nat) : (be w n).length = w := by unfold be; rw [List.length_reverse, le_length]
theorem be_ord (w : Nat) : ∀ (a b : Nat) (s t : List UInt8), ordN (be w a ++ s) (be w b ++ t) = if a % 256 ^ w = b % 256 ^ w then ordN s t else cmpI ((a % 256 ^ w : Nat) : Int) ((b % 256 ^ w : Nat) : Int) := by
  induction w with
  | zero =>
    intro a b s t
    rw [if_pos (by simp [Nat.mod_one])]; rfl
  | succ w ih =>
    intro a b s t
    rw [be_succ, be_succ, List.cons_append, List.cons_append, ordN, ih a b s t]
    have ha := Nat.mod_pow_succ (x := a) (b := 256) (k := w)
    have hb := Nat.mod_pow_succ (x := b) (b := 256) (k := w)
    have pa : a % 256 ^ w < 256 ^ w := Nat.mod_lt _ (Nat.pow_pos (by omega))
    have pb : b % 256 ^ w < 256 ^ w := Nat.mod_lt _ (Nat.pow_pos (by omega))
    have qa : a / 256 ^ w % 256 < 256 := Nat.mod_lt _ (by omega)
    have qb : b / 256 ^ w % 256 < 256 := Nat.mod_lt _ (by omega)
    have ta : (UInt8.ofNat (a / 256 ^ w % 256)).toNat = a / 256 ^ w % 256 := by simp
    have tb : (UInt8.ofNat (b / 256 ^ w % 256)).toNat = b / 256 ^ w % 256 := by simp
    rw [ta, tb, ha, hb]
    clear ta tb ha hb ih
    generalize a / 256 ^ w % 256 = x at *
    generalize b / 256 ^ w % 256 = y at *
    generalize a % 256 ^ w = u at *
    generalize b % 256 ^ w = v at *
    generalize 256 ^ w = P at *
    by_cases h1 : x < y
    · have : P * (x + 1) ≤ P * y := Nat.mul_le_mul_left P (by omega)
      rw [Nat.mul_add, Nat.mul_one] at this
      rw [if_pos h1, if_neg (by omega), cmpI_lt (by omega)]
    · by_cases h2 : y < x
      · have : P * (y + 1) ≤ P * x := Nat.mul_le_mul_left P (by omega)
        rw [Nat.mul_add, Nat.mul_one] at this
        rw [if_neg h1, if_pos h2, if_neg (by omega), cmpI_gt (by omega)]
      · obtain rfl : x = y := by omega
        rw [if_neg h1, if_neg h2]
        by_cases h3 : u = v
        · rw [if_pos h3, if_pos (by omega)]
        · rw [if_neg h3, if_neg (by omega), Int.natCast_add, Int.natCast_add, cmpI_add]

/-- bytes with each 0 marked -/
def esc : List UInt8 → List UInt8
  | [] => []
  | c :: r => if c = 0 then 0 :: 255 :: esc r else c :: esc r
theorem esc_ord : ∀ (l m s t : List UInt8), ordN (esc l ++ (0 :: 0 :: s)) (esc m ++ (0 :: 0 :: t)) = if l = m then ordN s t else ordN l m
  | [], [], s, t => by simp [esc, ordN]
  | [], b :: m, s, t => by
    rw [if_neg (by simp)]
    unfold esc
    by_cases hb : b = 0
    · subst hb
      simp [ordN]
    · have : 0 < b.toNat := by
        have : b.toNat ≠ 0 := fun h => hb (UInt8.toNat_inj.1 h)
        omega
      simp [hb, ordN, this]
  | a :: l, [], s, t => by
    rw [if_neg (by simp)]
    unfold esc
    by_cases ha : a = 0
    · subst ha
      simp [ordN]
    · have : 0 < a.toNat := by
        have : a.toNat ≠ 0 := fun h => ha (UInt8.toNat_inj.1 h)
        omega
      simp [ha, ordN, this]
  | a :: l, b :: m, s, t => by
    have ih := esc_ord l m s t
    by_cases hab : a = b
    · subst hab
      have e : (a :: l = a :: m) = (l = m) := by simp
      by_cases ha : a = 0
      · subst ha
        simp only [esc, if_true, List.cons_append, ordN, Nat.lt_irrefl, if_false, ih, List.cons.injEq, true_and]
      · simp only [esc, if_neg ha, List.cons_append, ordN, Nat.lt_irrefl, if_false, ih, List.cons.injEq, true_and]
    · have hn : a.toNat ≠ b.toNat := fun h => hab (UInt8.toNat_inj.1 h)
      rw [if_neg (by simp [hab])]
      have head : ∀ (c : UInt8) (r : List UInt8), ∃ q, esc (c :: r) = c :: q := fun c r => by
        unfold esc
        by_cases hc : c = 0
        · exact ⟨_, by rw [if_pos hc, hc]⟩
        · exact ⟨_, by rw [if_neg hc]⟩
      obtain ⟨p, hp⟩ := head a l
      obtain ⟨q, hq⟩ := head b m
      rw [hp, hq, List.cons_append, List.cons_append, ordN, ordN]
      by_cases h1 : a.toNat < b.toNat
      · rw [if_pos h1, if_pos h1]
      · rw [if_neg h1, if_neg h1, if_pos (by omega), if_pos (by omega)]

/-- the key of a value -/
def key (k n : Int) (l : List UInt8) : List UInt8 :=
  if k = 1 then 1 :: be 4 (n + 2147483648).toNat else if k = 2 then 2 :: be 8 (n + 9223372036854775808).toNat else if k = 3 then 3 :: (esc l ++ [0, 0]) else if k = 4 then 4 :: (esc l ++ [0, 0]) else [0]
theorem key_1 (n : Int) (l : List UInt8) : key 1 n l = 1 :: be 4 (n + 2147483648).toNat := rfl
theorem key_2 (n : Int) (l : List UInt8) : key 2 n l = 2 :: be 8 (n + 9223372036854775808).toNat := rfl
theorem key_3 (n : Int) (l : List UInt8) : key 3 n l = 3 :: (esc l ++ [0, 0]) := rfl
theorem key_4 (n : Int) (l : List UInt8) : key 4 n l = 4 :: (esc l ++ [0, 0]) := rfl
theorem key_0 (n : Int) (l : List UInt8) : key 0 n l = [0] := rfl
/-- a right value: its shape -/
theorem rightV_form {k n : Int} {l : List UInt8} (h : rightV k n l = true) : (k = 0 ∧ n = 0 ∧ l = []) ∨ (k = 1 ∧ -2147483648 ≤ n ∧ n < 2147483648 ∧ l = []) ∨ (k = 2 ∧ l = []) ∨ (k = 3 ∧ n = 0 ∧ l.length ≤ 120 ∧ (sg l).isSome = true) ∨ (k = 4 ∧ n = 0 ∧ l.length ≤ 120) := by
  rcases rightV_cases k n l with ⟨rfl, hv⟩ | ⟨rfl, hv⟩ | ⟨rfl, hv⟩ | ⟨rfl, hv⟩ | ⟨rfl, hv⟩ | ⟨_, _, _, _, _, hv⟩
  · rw [hv] at h; simp at h; exact .inl ⟨rfl, h.1, h.2⟩
  · rw [hv, fitsB_eq n 32 (by omega)] at h
    simp at h
    exact .inr (.inl ⟨rfl, h.1.1, h.1.2, h.2⟩)
  · rw [hv] at h; simp at h; exact .inr (.inr (.inl ⟨rfl, h⟩))
  · rw [hv] at h; simp at h; exact .inr (.inr (.inr (.inl ⟨rfl, h.1.1, h.1.2, h.2⟩)))
  · rw [hv] at h; simp at h; exact .inr (.inr (.inr (.inr ⟨rfl, h.1, h.2⟩)))
  · rw [hv] at h; cases h
theorem key_head {k n : Int} {l : List UInt8} (h : rightV k n l = true) : ∃ r, key k n l = UInt8.ofNat k.toNat :: r ∧ 0 ≤ k ∧ k ≤ 4 := by
  rcases rightV_form h with ⟨rfl, _⟩ | ⟨rfl, _⟩ | ⟨rfl, _⟩ | ⟨rfl, _⟩ | ⟨rfl, _⟩
  all_goals exact ⟨_, rfl, by decide, by decide⟩
theorem ordV_kind {k k' n n' : Int} {l l' : List UInt8} (h : k ≠ k') : ordV k n l k' n' l' = cmpI k k' := by
  unfold ordV or3
  rw [if_pos]
  unfold cmpI
  by_cases h1 : k < k'
  · rw [if_pos h1]; decide
  · rw [if_neg h1, if_pos (by omega)]; decide
theorem ordV_num {k n n' : Int} {l l' : List UInt8} (h : n ≠ n') : ordV k n l k n' l' = cmpI n n' := by
  have hk : cmpI k k = 0 := by unfold cmpI; rw [if_neg (by omega), if_neg (by omega)]
  unfold ordV or3
  rw [hk, if_neg (by simp), if_pos]
  unfold cmpI
  by_cases h1 : n < n'
  · rw [if_pos h1]; decide
  · rw [if_neg h1, if_pos (by omega)]; decide
theorem ordV_str {k n : Int} {l l' : List UInt8} : ordV k n l k n l' = ordN l l' := by
  have hk : ∀ x : Int, cmpI x x = 0 := fun x => by unfold cmpI; rw [if_neg (by omega), if_neg (by omega)]
  unfold ordV or3
  rw [hk, hk, if_neg (by simp), if_neg (by simp)]
/-- keys stand as their values do, whatever stands behind them -/
theorem key_ord {k n k' n' : Int} {l l' : List UInt8} (h : rightV k n l = true) (h' : rightV k' n' l' = true) (b1 : -9223372036854775808 ≤ n) (b2 : n < 9223372036854775808) (b3 : -9223372036854775808 ≤ n') (b4 : n' < 9223372036854775808) (s t : List UInt8) :
    ordN (key k n l ++ s) (key k' n' l' ++ t) = if k = k' ∧ n = n' ∧ l = l' then ordN s t else ordV k n l k' n' l' := by
  by_cases hk : k = k'
  · subst hk
    have skip : ∀ (c : UInt8) (p q : List UInt8), ordN (c :: p) (c :: q) = ordN p q := fun c p q => by rw [ordN, if_neg (by omega), if_neg (by omega)]
    rcases rightV_form h with ⟨rfl, rfl, rfl⟩ | ⟨rfl, p1, p2, rfl⟩ | ⟨rfl, rfl⟩ | ⟨rfl, rfl, _⟩ | ⟨rfl, rfl, _⟩
    · rcases rightV_form h' with ⟨_, rfl, rfl⟩ | ⟨q, _⟩ | ⟨q, _⟩ | ⟨q, _⟩ | ⟨q, _⟩
      · rw [if_pos ⟨rfl, rfl, rfl⟩]
        exact skip _ _ _
      all_goals omega
    · rcases rightV_form h' with ⟨q, _⟩ | ⟨_, q1, q2, rfl⟩ | ⟨q, _⟩ | ⟨q, _⟩ | ⟨q, _⟩
      · omega
      · rw [key_1, key_1, List.cons_append, List.cons_append, skip, be_ord]
        rw [Nat.mod_eq_of_lt (by omega), Nat.mod_eq_of_lt (by omega)]
        by_cases hn : n = n'
        · subst hn; rw [if_pos rfl, if_pos ⟨rfl, rfl, rfl⟩]
        · rw [if_neg (by omega), if_neg (fun e => hn e.2.1), ordV_num hn, ← cmpI_add n n' 2147483648, Int.toNat_of_nonneg (by omega), Int.toNat_of_nonneg (by omega)]
      all_goals omega
    · rcases rightV_form h' with ⟨q, _⟩ | ⟨q, _⟩ | ⟨_, rfl⟩ | ⟨q, _⟩ | ⟨q, _⟩
      · omega
      · omega
      · rw [key_2, key_2, List.cons_append, List.cons_append, skip, be_ord]
        rw [Nat.mod_eq_of_lt (by omega), Nat.mod_eq_of_lt (by omega)]
        by_cases hn : n = n'
        · subst hn; rw [if_pos rfl, if_pos ⟨rfl, rfl, rfl⟩]
        · rw [if_neg (by omega), if_neg (fun e => hn e.2.1), ordV_num hn, ← cmpI_add n n' 9223372036854775808, Int.toNat_of_nonneg (by omega), Int.toNat_of_nonneg (by omega)]
      all_goals omega
    · rcases rightV_form h' with ⟨q, _⟩ | ⟨q, _⟩ | ⟨q, _⟩ | ⟨_, rfl, _⟩ | ⟨q, _⟩
      · omega
      · omega
      · omega
      · rw [key_3, key_3, List.cons_append, List.cons_append, skip, List.append_assoc, List.append_assoc]
        show ordN (esc l ++ (0 :: 0 :: s)) (esc l' ++ (0 :: 0 :: t)) = _
        rw [esc_ord, ordV_str]
        by_cases hl : l = l'
        · rw [if_pos hl, if_pos ⟨rfl, rfl, hl⟩]
        · rw [if_neg hl, if_neg (fun e => hl e.2.2)]
      · omega
    · rcases rightV_form h' with ⟨q, _⟩ | ⟨q, _⟩ | ⟨q, _⟩ | ⟨q, _⟩ | ⟨_, rfl, _⟩
      · omega
      · omega
      · omega
      · omega
      · rw [key_4, key_4, List.cons_append, List.cons_append, skip, List.append_assoc, List.append_assoc]
        show ordN (esc l ++ (0 :: 0 :: s)) (esc l' ++ (0 :: 0 :: t)) = _
        rw [esc_ord, ordV_str]
        by_cases hl : l = l'
        · rw [if_pos hl, if_pos ⟨rfl, rfl, hl⟩]
        · rw [if_neg hl, if_neg (fun e => hl e.2.2)]
  · rw [if_neg (fun e => hk e.1), ordV_kind hk]
    obtain ⟨p, hp, a1, a2⟩ := key_head h
    obtain ⟨q, hq, c1, c2⟩ := key_head h'
    rw [hp, hq, List.cons_append, List.cons_append, ordN]
    have e1 : (UInt8.ofNat k.toNat).toNat = k.toNat := by simp; omega
    have e2 : (UInt8.ofNat k'.toNat).toNat = k'.toNat := by simp; omega
    rw [e1, e2]
    by_cases h1 : k < k'
    · rw [cmpI_lt h1, if_pos (by omega)]
    · rw [cmpI_gt (by omega), if_neg (by omega), if_pos (by omega)]
theorem ordV_none {k n k' n' : Int} {l l' : List UInt8} (h : ordV k n l k' n' l' = 0) : k = k' ∧ n = n' ∧ l = l' := by
  have cz : ∀ {a b : Int}, a ≠ b → cmpI a b ≠ 0 := fun {a b} hne => by
    unfold cmpI
    by_cases h1 : a < b
    · rw [if_pos h1]; decide
    · rw [if_neg h1, if_pos (by omega)]; decide
  by_cases hk : k = k'
  · subst hk
    by_cases hn : n = n'
    · subst hn
      rw [ordV_str] at h
      exact ⟨rfl, rfl, ordN_zero h⟩
    · rw [ordV_num hn] at h
      exact absurd h (cz hn)
  · rw [ordV_kind hk] at h
    exact absurd h (cz hk)
/-- a key says its value, whatever stands behind it -/
theorem key_inj {k n k' n' : Int} {l l' : List UInt8} (h : rightV k n l = true) (h' : rightV k' n' l' = true) (b1 : -9223372036854775808 ≤ n) (b2 : n < 9223372036854775808) (b3 : -9223372036854775808 ≤ n') (b4 : n' < 9223372036854775808) {s t : List UInt8}
    (e : key k n l ++ s = key k' n' l' ++ t) : k = k' ∧ n = n' ∧ l = l' := by
  have ho := key_ord h h' b1 b2 b3 b4 s t
  rw [e, ordN_self] at ho
  by_cases hv : k = k' ∧ n = n' ∧ l = l'
  · exact hv
  · rw [if_neg hv] at ho
    exact absurd (ordV_none ho.symm) hv
end Go.Proofs.YtbbdmphclnnejaaDoor
