/-
  Texts that the proof needs, one behind the other: SkMath, SkReadMath, SkRows, SkBitMath, SkPutC, SkOfC.
-/
import Derived.Deep.Slices
import Derived.Deep.Strs
import Derived.Test.YtebldfnocpcddaaGreatDoorPart1
import Derived.Test.YtebldfnocpcddaaGreatDoorPart4
import Derived.Test.YtebldfnocpcddaaGreatDoorPart5

/-
  The mathematics of keys (layer 7): the key of a value, its order, no key begins with another one.
-/
namespace Go.Proofs.YtebldfnocpcddaaGreatDoor

theorem cmpI_lt {a b : Int} (h : a < b) : cmpI a b = -1 := if_pos h
theorem cmpI_gt {a b : Int} (h : b < a) : cmpI a b = 1 := by unfold cmpI; rw [if_neg (by omega), if_pos h]
theorem cmpI_add (a b c : Int) : cmpI (a + c) (b + c) = cmpI a b := by
  unfold cmpI
  by_cases h1 : a < b
  · rw [if_pos h1, if_pos (by omega)]
  · by_cases h2 : b < a
    · rw [if_neg h1, if_pos h2, if_neg (by omega), if_pos (by omega)]
    · rw [if_neg h1, if_neg h2, if_neg (by omega), if_neg (by omega)]
/-- the most significant byte first -/
def be (w n : Nat) : List UInt8 := (le w n).reverse
theorem be_succ (w n : Nat) : be (w + 1) n = UInt8.ofNat (n / 256 ^ w % 256) :: be w n := by
  unfold be
  rw [le_snoc, List.reverse_append]; rfl
theorem be_length (w n : Nat) : (be w n).length = w := by unfold be; rw [List.length_reverse, le_length]
theorem be_ord (w : Nat) : ∀ (a b : Nat) (s t : List UInt8), ordN (be w a ++ s) (be w b ++ t) = if a % 256 ^ w = b % 256 ^ w then ordN s t else cmpI ((a % 256 ^ w : Nat) : Int) ((b % 256 ^ w : Nat) : Int) := by
  induction w with
  | zero =>
    intro a b s t
    rw [if_pos (by simp [Nat.mod_one])]; rfl
  | succ w ih =>
    intro a b s t
    rw [be_succ, be_succ, List.cons_append, List.cons_append, ordN, ih a b s t]
    have ha := Nat.mod_pow_succ (x := a) (b := 256) (k := w)
    have hb := Nat.mod_pow_succ (x := b) (b := 256) (k := w)
    have pa : a % 256 ^ w < 256 ^ w := Nat.mod_lt _ (Nat.pow_pos (by omega))
    have pb : b % 256 ^ w < 256 ^ w := Nat.mod_lt _ (Nat.pow_pos (by omega))
    have qa : a / 256 ^ w % 256 < 256 := Nat.mod_lt _ (by omega)
    have qb : b / 256 ^ w % 256 < 256 := Nat.mod_lt _ (by omega)
    have ta : (UInt8.ofNat (a / 256 ^ w % 256)).toNat = a / 256 ^ w % 256 := by simp
    have tb : (UInt8.ofNat (b / 256 ^ w % 256)).toNat = b / 256 ^ w % 256 := by simp
    rw [ta, tb, ha, hb]
    clear ta tb ha hb ih
    generalize a / 256 ^ w % 256 = x at *
    generalize b / 256 ^ w % 256 = y at *
    generalize a % 256 ^ w = u at *
    generalize b % 256 ^ w = v at *
    generalize 256 ^ w = P at *
    by_cases h1 : x < y
    · have : P * (x + 1) ≤ P * y := Nat.mul_le_mul_left P (by omega)
      rw [Nat.mul_add, Nat.mul_one] at this
      rw [if_pos h1, if_neg (by omega), cmpI_lt (by omega)]
    · by_cases h2 : y < x
      · have : P * (y + 1) ≤ P * x := Nat.mul_le_mul_left P (by omega)
        rw [Nat.mul_add, Nat.mul_one] at this
        rw [if_neg h1, if_pos h2, if_neg (by omega), cmpI_gt (by omega)]
      · obtain rfl : x = y := by omega
        rw [if_neg h1, if_neg h2]
        by_cases h3 : u = v
        · rw [if_pos h3, if_pos (by omega)]
        · rw [if_neg h3, if_neg (by omega), Int.natCast_add, Int.natCast_add, cmpI_add]

/-- bytes with each 0 marked -/
def esc : List UInt8 → List UInt8
  | [] => []
  | c :: r => if c = 0 then 0 :: 255 :: esc r else c :: esc r
theorem esc_ord : ∀ (l m s t : List UInt8), ordN (esc l ++ (0 :: 0 :: s)) (esc m ++ (0 :: 0 :: t)) = if l = m then ordN s t else ordN l m
  | [], [], s, t => by simp [esc, ordN]
  | [], b :: m, s, t => by
    rw [if_neg (by simp)]
    unfold esc
    by_cases hb : b = 0
    · subst hb
      simp [ordN]
    · have : 0 < b.toNat := by
        have : b.toNat ≠ 0 := fun h => hb (UInt8.toNat_inj.1 h)
        omega
      simp [hb, ordN, this]
  | a :: l, [], s, t => by
    rw [if_neg (by simp)]
    unfold esc
    by_cases ha : a = 0
    · subst ha
      simp [ordN]
    · have : 0 < a.toNat := by
        have : a.toNat ≠ 0 := fun h => ha (UInt8.toNat_inj.1 h)
        omega
      simp [ha, ordN, this]
  | a :: l, b :: m, s, t => by
    have ih := esc_ord l m s t
    by_cases hab : a = b
    · subst hab
      have e : (a :: l = a :: m) = (l = m) := by simp
      by_cases ha : a = 0
      · subst ha
        simp only [esc, if_true, List.cons_append, ordN, Nat.lt_irrefl, if_false, ih, List.cons.injEq, true_and]
      · simp only [esc, if_neg ha, List.cons_append, ordN, Nat.lt_irrefl, if_false, ih, List.cons.injEq, true_and]
    · have hn : a.toNat ≠ b.toNat := fun h => hab (UInt8.toNat_inj.1 h)
      rw [if_neg (by simp [hab])]
      have head : ∀ (c : UInt8) (r : List UInt8), ∃ q, esc (c :: r) = c :: q := fun c r => by
        unfold esc
        by_cases hc : c = 0
        · exact ⟨_, by rw [if_pos hc, hc]⟩
        · exact ⟨_, by rw [if_neg hc]⟩
      obtain ⟨p, hp⟩ := head a l
      obtain ⟨q, hq⟩ := head b m
      rw [hp, hq, List.cons_append, List.cons_append, ordN, ordN]
      by_cases h1 : a.toNat < b.toNat
      · rw [if_pos h1, if_pos h1]
      · rw [if_neg h1, if_neg h1, if_pos (by omega), if_pos (by omega)]

/-- the key of a value -/
def key (k n : Int) (l : List UInt8) : List UInt8 :=
  if k = 1 then 1 :: be 4 (n + 2147483648).toNat else if k = 2 then 2 :: be 8 (n + 9223372036854775808).toNat else if k = 3 then 3 :: (esc l ++ [0, 0]) else if k = 4 then 4 :: (esc l ++ [0, 0]) else [0]
theorem key_1 (n : Int) (l : List UInt8) : key 1 n l = 1 :: be 4 (n + 2147483648).toNat := rfl
theorem key_2 (n : Int) (l : List UInt8) : key 2 n l = 2 :: be 8 (n + 9223372036854775808).toNat := rfl
theorem key_3 (n : Int) (l : List UInt8) : key 3 n l = 3 :: (esc l ++ [0, 0]) := rfl
theorem key_4 (n : Int) (l : List UInt8) : key 4 n l = 4 :: (esc l ++ [0, 0]) := rfl
theorem key_0 (n : Int) (l : List UInt8) : key 0 n l = [0] := rfl
/-- a right value: its shape -/
theorem rightV_form {k n : Int} {l : List UInt8} (h : rightV k n l = true) : (k = 0 ∧ n = 0 ∧ l = []) ∨ (k = 1 ∧ -2147483648 ≤ n ∧ n < 2147483648 ∧ l = []) ∨ (k = 2 ∧ l = []) ∨ (k = 3 ∧ n = 0 ∧ l.length ≤ 120 ∧ (sg l).isSome = true) ∨ (k = 4 ∧ n = 0 ∧ l.length ≤ 120) := by
  rcases rightV_cases k n l with ⟨rfl, hv⟩ | ⟨rfl, hv⟩ | ⟨rfl, hv⟩ | ⟨rfl, hv⟩ | ⟨rfl, hv⟩ | ⟨_, _, _, _, _, hv⟩
  · rw [hv] at h; simp at h; exact .inl ⟨rfl, h.1, h.2⟩
  · rw [hv, fitsB_eq n 32 (by omega)] at h
    simp at h
    exact .inr (.inl ⟨rfl, h.1.1, h.1.2, h.2⟩)
  · rw [hv] at h; simp at h; exact .inr (.inr (.inl ⟨rfl, h⟩))
  · rw [hv] at h; simp at h; exact .inr (.inr (.inr (.inl ⟨rfl, h.1.1, h.1.2, h.2⟩)))
  · rw [hv] at h; simp at h; exact .inr (.inr (.inr (.inr ⟨rfl, h.1, h.2⟩)))
  · rw [hv] at h; cases h
theorem key_head {k n : Int} {l : List UInt8} (h : rightV k n l = true) : ∃ r, key k n l = UInt8.ofNat k.toNat :: r ∧ 0 ≤ k ∧ k ≤ 4 := by
  rcases rightV_form h with ⟨rfl, _⟩ | ⟨rfl, _⟩ | ⟨rfl, _⟩ | ⟨rfl, _⟩ | ⟨rfl, _⟩
  all_goals exact ⟨_, rfl, by decide, by decide⟩
theorem ordV_kind {k k' n n' : Int} {l l' : List UInt8} (h : k ≠ k') : ordV k n l k' n' l' = cmpI k k' := by
  unfold ordV or3
  rw [if_pos]
  unfold cmpI
  by_cases h1 : k < k'
  · rw [if_pos h1]; decide
  · rw [if_neg h1, if_pos (by omega)]; decide
theorem ordV_num {k n n' : Int} {l l' : List UInt8} (h : n ≠ n') : ordV k n l k n' l' = cmpI n n' := by
  have hk : cmpI k k = 0 := by unfold cmpI; rw [if_neg (by omega), if_neg (by omega)]
  unfold ordV or3
  rw [hk, if_neg (by simp), if_pos]
  unfold cmpI
  by_cases h1 : n < n'
  · rw [if_pos h1]; decide
  · rw [if_neg h1, if_pos (by omega)]; decide
theorem ordV_str {k n : Int} {l l' : List UInt8} : ordV k n l k n l' = ordN l l' := by
  have hk : ∀ x : Int, cmpI x x = 0 := fun x => by unfold cmpI; rw [if_neg (by omega), if_neg (by omega)]
  unfold ordV or3
  rw [hk, hk, if_neg (by simp), if_neg (by simp)]
/-- keys stand as their values do, whatever stands behind them -/
theorem key_ord {k n k' n' : Int} {l l' : List UInt8} (h : rightV k n l = true) (h' : rightV k' n' l' = true) (b1 : -9223372036854775808 ≤ n) (b2 : n < 9223372036854775808) (b3 : -9223372036854775808 ≤ n') (b4 : n' < 9223372036854775808) (s t : List UInt8) :
    ordN (key k n l ++ s) (key k' n' l' ++ t) = if k = k' ∧ n = n' ∧ l = l' then ordN s t else ordV k n l k' n' l' := by
  by_cases hk : k = k'
  · subst hk
    have skip : ∀ (c : UInt8) (p q : List UInt8), ordN (c :: p) (c :: q) = ordN p q := fun c p q => by rw [ordN, if_neg (by omega), if_neg (by omega)]
    rcases rightV_form h with ⟨rfl, rfl, rfl⟩ | ⟨rfl, p1, p2, rfl⟩ | ⟨rfl, rfl⟩ | ⟨rfl, rfl, _⟩ | ⟨rfl, rfl, _⟩
    · rcases rightV_form h' with ⟨_, rfl, rfl⟩ | ⟨q, _⟩ | ⟨q, _⟩ | ⟨q, _⟩ | ⟨q, _⟩
      · rw [if_pos ⟨rfl, rfl, rfl⟩]
        exact skip _ _ _
      all_goals omega
    · rcases rightV_form h' with ⟨q, _⟩ | ⟨_, q1, q2, rfl⟩ | ⟨q, _⟩ | ⟨q, _⟩ | ⟨q, _⟩
      · omega
      · rw [key_1, key_1, List.cons_append, List.cons_append, skip, be_ord]
        rw [Nat.mod_eq_of_lt (by omega), Nat.mod_eq_of_lt (by omega)]
        by_cases hn : n = n'
        · subst hn; rw [if_pos rfl, if_pos ⟨rfl, rfl, rfl⟩]
        · rw [if_neg (by omega), if_neg (fun e => hn e.2.1), ordV_num hn, ← cmpI_add n n' 2147483648, Int.toNat_of_nonneg (by omega), Int.toNat_of_nonneg (by omega)]
      all_goals omega
    · rcases rightV_form h' with ⟨q, _⟩ | ⟨q, _⟩ | ⟨_, rfl⟩ | ⟨q, _⟩ | ⟨q, _⟩
      · omega
      · omega
      · rw [key_2, key_2, List.cons_append, List.cons_append, skip, be_ord]
        rw [Nat.mod_eq_of_lt (by omega), Nat.mod_eq_of_lt (by omega)]
        by_cases hn : n = n'
        · subst hn; rw [if_pos rfl, if_pos ⟨rfl, rfl, rfl⟩]
        · rw [if_neg (by omega), if_neg (fun e => hn e.2.1), ordV_num hn, ← cmpI_add n n' 9223372036854775808, Int.toNat_of_nonneg (by omega), Int.toNat_of_nonneg (by omega)]
      all_goals omega
    · rcases rightV_form h' with ⟨q, _⟩ | ⟨q, _⟩ | ⟨q, _⟩ | ⟨_, rfl, _⟩ | ⟨q, _⟩
      · omega
      · omega
      · omega
      · rw [key_3, key_3, List.cons_append, List.cons_append, skip, List.append_assoc, List.append_assoc]
        show ordN (esc l ++ (0 :: 0 :: s)) (esc l' ++ (0 :: 0 :: t)) = _
        rw [esc_ord, ordV_str]
        by_cases hl : l = l'
        · rw [if_pos hl, if_pos ⟨rfl, rfl, hl⟩]
        · rw [if_neg hl, if_neg (fun e => hl e.2.2)]
      · omega
    · rcases rightV_form h' with ⟨q, _⟩ | ⟨q, _⟩ | ⟨q, _⟩ | ⟨q, _⟩ | ⟨_, rfl, _⟩
      · omega
      · omega
      · omega
      · omega
      · rw [key_4, key_4, List.cons_append, List.cons_append, skip, List.append_assoc, List.append_assoc]
        show ordN (esc l ++ (0 :: 0 :: s)) (esc l' ++ (0 :: 0 :: t)) = _
        rw [esc_ord, ordV_str]
        by_cases hl : l = l'
        · rw [if_pos hl, if_pos ⟨rfl, rfl, hl⟩]
        · rw [if_neg hl, if_neg (fun e => hl e.2.2)]
  · rw [if_neg (fun e => hk e.1), ordV_kind hk]
    obtain ⟨p, hp, a1, a2⟩ := key_head h
    obtain ⟨q, hq, c1, c2⟩ := key_head h'
    rw [hp, hq, List.cons_append, List.cons_append, ordN]
    have e1 : (UInt8.ofNat k.toNat).toNat = k.toNat := by simp; omega
    have e2 : (UInt8.ofNat k'.toNat).toNat = k'.toNat := by simp; omega
    rw [e1, e2]
    by_cases h1 : k < k'
    · rw [cmpI_lt h1, if_pos (by omega)]
    · rw [cmpI_gt (by omega), if_neg (by omega), if_pos (by omega)]
theorem ordV_none {k n k' n' : Int} {l l' : List UInt8} (h : ordV k n l k' n' l' = 0) : k = k' ∧ n = n' ∧ l = l' := by
  have cz : ∀ {a b : Int}, a ≠ b → cmpI a b ≠ 0 := fun {a b} hne => by
    unfold cmpI
    by_cases h1 : a < b
    · rw [if_pos h1]; decide
    · rw [if_neg h1, if_pos (by omega)]; decide
  by_cases hk : k = k'
  · subst hk
    by_cases hn : n = n'
    · subst hn
      rw [ordV_str] at h
      exact ⟨rfl, rfl, ordN_zero h⟩
    · rw [ordV_num hn] at h
      exact absurd h (cz hn)
  · rw [ordV_kind hk] at h
    exact absurd h (cz hk)
/-- a key says its value, whatever stands behind it -/
theorem key_inj {k n k' n' : Int} {l l' : List UInt8} (h : rightV k n l = true) (h' : rightV k' n' l' = true) (b1 : -9223372036854775808 ≤ n) (b2 : n < 9223372036854775808) (b3 : -9223372036854775808 ≤ n') (b4 : n' < 9223372036854775808) {s t : List UInt8}
    (e : key k n l ++ s = key k' n' l' ++ t) : k = k' ∧ n = n' ∧ l = l' := by
  have ho := key_ord h h' b1 b2 b3 b4 s t
  rw [e, ordN_self] at ho
  by_cases hv : k = k' ∧ n = n' ∧ l = l'
  · exact hv
  · rw [if_neg hv] at ho
    exact absurd (ordV_none ho.symm) hv
end Go.Proofs.YtebldfnocpcddaaGreatDoor

/-
  The mathematics of keys (layer 7): several keys, reading back, the next text.
-/
namespace Go.Proofs.YtebldfnocpcddaaGreatDoor

abbrev Vl := Int × Int × List UInt8
def rightL (v : Vl) : Bool := rightV v.1 v.2.1 v.2.2
def in64 (v : Vl) : Prop := -9223372036854775808 ≤ v.2.1 ∧ v.2.1 < 9223372036854775808
def keyL (v : Vl) : List UInt8 := key v.1 v.2.1 v.2.2
/-- several keys, one behind the other -/
def ofK (l : List Vl) : List UInt8 := l.flatMap keyL
theorem ofK_cons (v : Vl) (l : List Vl) : ofK (v :: l) = keyL v ++ ofK l := rfl
theorem ofK_snoc (l : List Vl) (v : Vl) : ofK (l ++ [v]) = ofK l ++ keyL v := by simp [ofK]
/-- the order of several values -/
def ordL : List Vl → List Vl → Int
  | [], [] => 0
  | [], _ :: _ => -1
  | _ :: _, [] => 1
  | a :: r, b :: s => if ordV a.1 a.2.1 a.2.2 b.1 b.2.1 b.2.2 ≠ 0 then ordV a.1 a.2.1 a.2.2 b.1 b.2.1 b.2.2 else ordL r s
theorem of_ord : ∀ (a b : List Vl), (∀ v ∈ a, rightL v = true ∧ in64 v) → (∀ v ∈ b, rightL v = true ∧ in64 v) → ordN (ofK a) (ofK b) = ordL a b
  | [], [], _, _ => rfl
  | [], v :: b, _, hb => by
    obtain ⟨r, hr, _⟩ := key_head (hb v (by simp)).1
    rw [ofK_cons, show keyL v = _ from hr]; rfl
  | v :: a, [], ha, _ => by
    obtain ⟨r, hr, _⟩ := key_head (ha v (by simp)).1
    rw [ofK_cons, show keyL v = _ from hr]; rfl
  | v :: a, w :: b, ha, hb => by
    have ih := of_ord a b (fun x hx => ha x (by simp [hx])) (fun x hx => hb x (by simp [hx]))
    obtain ⟨v1, v2, v3⟩ := ha v (by simp)
    obtain ⟨w1, w2, w3⟩ := hb w (by simp)
    rw [ofK_cons, ofK_cons, ordL]
    unfold keyL
    rw [key_ord v1 w1 v2 v3 w2 w3, ih]
    by_cases h : v.1 = w.1 ∧ v.2.1 = w.2.1 ∧ v.2.2 = w.2.2
    · rw [if_pos h, if_neg]
      rw [h.1, h.2.1, h.2.2, ordV_str, ordN_self]; simp
    · rw [if_neg h, if_pos (fun e => h (ordV_none e))]

/-- the bytes up to their end: the bytes, how many were taken, 0 or the error -/
def scan : List UInt8 → List UInt8 × Nat × Nat
  | [] => ([], 0, 4)
  | [c] => if c = 0 then ([], 0, 4) else ([c], 1, 4)
  | c :: d :: r => if c = 0 then (if d = 255 then (0 :: (scan r).1, (scan r).2.1 + 2, (scan r).2.2) else if d = 0 then ([], 2, 0) else ([], 0, 5)) else (c :: (scan (d :: r)).1, (scan (d :: r)).2.1 + 1, (scan (d :: r)).2.2)
theorem scan_nil : scan [] = ([], 0, 4) := by simp [scan]
theorem scan_cons {c : UInt8} (r : List UInt8) (h : c ≠ 0) : scan (c :: r) = (c :: (scan r).1, (scan r).2.1 + 1, (scan r).2.2) := by
  cases r with
  | nil => simp [scan, h]
  | cons d r => simp [scan, h]
theorem scan_mark (r : List UInt8) : scan (0 :: 255 :: r) = (0 :: (scan r).1, (scan r).2.1 + 2, (scan r).2.2) := by simp [scan]
theorem scan_end (r : List UInt8) : scan (0 :: 0 :: r) = ([], 2, 0) := by simp [scan]
theorem scan_cut : scan [0] = ([], 0, 4) := by simp [scan]
theorem scan_bad {d : UInt8} (r : List UInt8) (h1 : d ≠ 255) (h2 : d ≠ 0) : scan (0 :: d :: r) = ([], 0, 5) := by simp [scan, h1, h2]
theorem scan_esc : ∀ (l s : List UInt8), scan (esc l ++ (0 :: 0 :: s)) = (l, (esc l).length + 2, 0)
  | [], s => by rw [esc]; exact scan_end s
  | c :: r, s => by
    have ih := scan_esc r s
    by_cases hc : c = 0
    · subst hc
      have e : esc (0 :: r) = 0 :: 255 :: esc r := by simp [esc]
      rw [e, List.cons_append, List.cons_append, scan_mark, ih]
      simp
    · have e : esc (c :: r) = c :: esc r := by simp [esc, hc]
      rw [e, List.cons_append, scan_cons _ hc, ih]
      simp
theorem scan_len : ∀ l : List UInt8, (scan l).1.length ≤ l.length
  | [] => by simp [scan]
  | [c] => by
    by_cases h : c = 0 <;> simp [scan, h]
  | c :: d :: r => by
    have i1 := scan_len r
    have i2 := scan_len (d :: r)
    by_cases h : c = 0
    · by_cases h1 : d = 255
      · simp [scan, h, h1]; omega
      · by_cases h2 : d = 0 <;> simp [scan, h, h1, h2]
    · rw [scan_cons _ h]
      simp at i2 ⊢; omega
theorem scan_le : ∀ l : List UInt8, (scan l).2.1 ≤ l.length
  | [] => by simp [scan]
  | [c] => by
    by_cases h : c = 0 <;> simp [scan, h]
  | c :: d :: r => by
    have i1 := scan_le r
    have i2 := scan_le (d :: r)
    by_cases h : c = 0
    · by_cases h1 : d = 255
      · simp [scan, h, h1]; omega
      · by_cases h2 : d = 0 <;> simp [scan, h, h1, h2]
    · rw [scan_cons _ h]
      simp at i2 ⊢; omega
def unbe (l : List UInt8) : Nat := unle l.reverse
theorem unbe_be (w n : Nat) (h : n < 256 ^ w) : unbe (be w n) = n := by
  unfold unbe be
  rw [List.reverse_reverse]; exact unle_le w n h
def noV : Vl := (0, 0, [])
/-- the value of the key at the beginning, its length, 0 or the error -/
def readK2 (c : Nat) (q : List UInt8 × Nat × Nat) : Vl × Nat × Nat :=
  if q.2.2 = 0 then (if c = 3 ∧ (sg q.1).isSome = false then (noV, 0, 5) else if 120 < q.1.length then (noV, 0, 3) else (((c : Int), 0, q.1), q.2.1 + 1, 0)) else (noV, 0, q.2.2)
def readK : List UInt8 → Vl × Nat × Nat
  | [] => (noV, 0, 4)
  | c :: r => if 4 < c.toNat then (noV, 0, 5) else if c.toNat = 0 then (noV, 1, 0)
    else if c.toNat = 1 then (if r.length < 4 then (noV, 0, 4) else ((1, (unbe (r.take 4) : Int) - 2147483648, []), 5, 0))
    else if c.toNat = 2 then (if r.length < 8 then (noV, 0, 4) else ((2, (unbe (r.take 8) : Int) - 9223372036854775808, []), 9, 0))
    else readK2 c.toNat (scan r)
/-- what is made of a value is read as it is, whatever stands behind it -/
theorem read_key {v : Vl} (h : rightL v = true) (hb : in64 v) (s : List UInt8) : readK (keyL v ++ s) = (v, (keyL v).length, 0) := by
  obtain ⟨k, n, l⟩ := v
  obtain ⟨b1, b2⟩ := hb
  simp only at b1 b2
  have h' : rightV k n l = true := h
  rcases rightV_form h' with ⟨rfl, rfl, rfl⟩ | ⟨rfl, p1, p2, rfl⟩ | ⟨rfl, rfl⟩ | ⟨rfl, rfl, hl, hs⟩ | ⟨rfl, rfl, hl⟩
  · rfl
  · show readK (1 :: be 4 (n + 2147483648).toNat ++ s) = ((1, n, []), (1 :: be 4 (n + 2147483648).toNat).length, 0)
    have hlen := be_length 4 (n + 2147483648).toNat
    rw [List.cons_append]
    simp only [readK]
    rw [if_neg (by decide), if_neg (by decide), if_pos (by decide), if_neg (by simp [hlen]), List.take_append_of_le_length (by omega), List.take_of_length_le (by omega), unbe_be _ _ (by omega), List.length_cons, hlen]
    rw [Int.toNat_of_nonneg (by omega), show n + 2147483648 - 2147483648 = n by omega]
  · show readK (2 :: be 8 (n + 9223372036854775808).toNat ++ s) = ((2, n, []), (2 :: be 8 (n + 9223372036854775808).toNat).length, 0)
    have hlen := be_length 8 (n + 9223372036854775808).toNat
    rw [List.cons_append]
    simp only [readK]
    rw [if_neg (by decide), if_neg (by decide), if_neg (by decide), if_pos (by decide), if_neg (by simp [hlen]), List.take_append_of_le_length (by omega), List.take_of_length_le (by omega), unbe_be _ _ (by omega), List.length_cons, hlen]
    rw [Int.toNat_of_nonneg (by omega), show n + 9223372036854775808 - 9223372036854775808 = n by omega]
  · show readK (3 :: (esc l ++ [0, 0]) ++ s) = ((3, 0, l), (3 :: (esc l ++ [0, 0])).length, 0)
    rw [List.cons_append, List.append_assoc]
    simp only [readK]
    rw [if_neg (by decide), if_neg (by decide), if_neg (by decide), if_neg (by decide)]
    show readK2 3 (scan (esc l ++ (0 :: 0 :: s))) = _
    rw [scan_esc]
    unfold readK2
    rw [if_pos rfl, if_neg (by rw [hs]; simp), if_neg (by simp only; omega)]
    simp
  · show readK (4 :: (esc l ++ [0, 0]) ++ s) = ((4, 0, l), (4 :: (esc l ++ [0, 0])).length, 0)
    rw [List.cons_append, List.append_assoc]
    simp only [readK]
    rw [if_neg (by decide), if_neg (by decide), if_neg (by decide), if_neg (by decide)]
    show readK2 4 (scan (esc l ++ (0 :: 0 :: s))) = _
    rw [scan_esc]
    unfold readK2
    rw [if_pos rfl, if_neg (by simp), if_neg (by simp only; omega)]
    simp

/-- the values of the first p bytes -/
inductive GotK (l : List UInt8) : List Vl → Nat → Prop
  | zero : GotK l [] 0
  | more {vs : List Vl} {p : Nat} {v : Vl} {k : Nat} (h : GotK l vs p) (hp : p < l.length) (hr : readK (l.drop p) = (v, k, 0)) : GotK l (vs ++ [v]) (p + k)
def allFK : Nat → List UInt8 → List Vl → List Vl × Nat
  | 0, _, vs => (vs, 0)
  | f + 1, l, vs => if l = [] then (vs, 0) else if (readK l).2.2 = 0 then allFK f (l.drop (readK l).2.1) (vs ++ [(readK l).1]) else ([], (readK l).2.2)
/-- all values that a text is, 0 or the error -/
def allK (l : List UInt8) : List Vl × Nat := allFK l.length l []
theorem readK_pos {l : List UInt8} {v : Vl} {k : Nat} (h : readK l = (v, k, 0)) : 1 ≤ k := by
  unfold readK at h
  split at h
  · cases h
  · unfold readK2 at h
    repeat' split at h
    all_goals first
      | (cases h; omega)
      | (cases h; done)
      | (injection h with h1 h2; injection h2 with h2 h3; omega)
theorem allFK_more (l : List UInt8) : ∀ {vs : List Vl} {p : Nat}, GotK l vs p → ∀ f, l.length ≤ f + 0 → ∃ g, l.length ≤ p + g ∧ allFK f l [] = allFK g (l.drop p) vs := by
  intro vs p h
  induction h with
  | zero => intro f hf; exact ⟨f, by omega, by rw [List.drop_zero]⟩
  | more h hp hr ih =>
    intro f hf
    obtain ⟨g, hg, he⟩ := ih f hf
    cases g with
    | zero => omega
    | succ g =>
      have hk := readK_pos hr
      refine ⟨g, by omega, ?_⟩
      rw [he, allFK, if_neg (by intro e; rw [List.drop_eq_nil_iff] at e; omega), hr, if_pos rfl, List.drop_drop]
theorem all_done {l : List UInt8} {vs : List Vl} {p : Nat} (h : GotK l vs p) (hp : l.length ≤ p) : allK l = (vs, 0) := by
  obtain ⟨g, _, he⟩ := allFK_more l h l.length (by omega)
  unfold allK
  rw [he, List.drop_eq_nil_of_le hp]
  cases g with
  | zero => rfl
  | succ g => rw [allFK, if_pos rfl]
theorem all_stop {l : List UInt8} {vs : List Vl} {p : Nat} {v : Vl} {k e : Nat} (h : GotK l vs p) (hp : p < l.length) (hr : readK (l.drop p) = (v, k, e)) (he : e ≠ 0) : allK l = ([], e) := by
  obtain ⟨g, hg, ha⟩ := allFK_more l h l.length (by omega)
  unfold allK
  rw [ha]
  cases g with
  | zero => omega
  | succ g => rw [allFK, if_neg (by intro e; rw [List.drop_eq_nil_iff] at e; omega), hr, if_neg he]
theorem got_of (l : List Vl) (h : ∀ v ∈ l, rightL v = true ∧ in64 v) (s : List UInt8) : GotK (ofK l ++ s) l (ofK l).length := by
  suffices H : ∀ (b a : List Vl), a ++ b = l → GotK (ofK l ++ s) a (ofK a).length → GotK (ofK l ++ s) l (ofK l).length from H l [] rfl .zero
  intro b
  induction b with
  | nil =>
    intro a hab hg
    rw [List.append_nil] at hab
    rw [hab] at hg
    exact hg
  | cons v b ih =>
    intro a hab h1
    have hv := h v (by rw [← hab]; simp)
    have hd : (ofK l ++ s).drop (ofK a).length = keyL v ++ (ofK b ++ s) := by
      rw [← hab]
      simp [ofK]
    obtain ⟨r, hr, _⟩ := key_head hv.1
    have hlen : (keyL v).length = r.length + 1 := by rw [show keyL v = _ from hr]; rfl
    have e : (keyL v ++ (ofK b ++ s)).length = (keyL v).length + (ofK b ++ s).length := List.length_append
    have h2 := GotK.more h1 (by
      have := congrArg List.length hd
      rw [List.length_drop, e] at this
      omega) (by rw [hd]; exact read_key hv.1 hv.2 _)
    refine ih (a ++ [v]) (by rw [← hab]; simp) ?_
    rw [ofK_snoc, List.length_append]
    exact h2
/-- what is made of values is read as they are -/
theorem all_of (l : List Vl) (h : ∀ v ∈ l, rightL v = true ∧ in64 v) : allK (ofK l) = (l, 0) := by
  have := got_of l h []
  rw [List.append_nil] at this
  exact all_done this (Nat.le_refl _)
end Go.Proofs.YtebldfnocpcddaaGreatDoor

/-
  Rows of values (three cells an element): such as lie somewhere, such as a call makes by itself, and a parameter of type []api.Value.
-/
namespace Go.Proofs.YtebldfnocpcddaaGreatDoor
open Go.RowKit

/-- a value with its string as the program has it -/
abbrev Vb := Int × Int × ByteArray
def vl (v : Vb) : Vl := (v.1, v.2.1, bs v.2.2)
def vls (l : List Vb) : List Vl := l.map vl
theorem vl_inj {a b : Vb} (h : vl a = vl b) : a = b := by
  obtain ⟨k, n, s⟩ := a
  obtain ⟨k', n', s'⟩ := b
  simp [vl] at h
  obtain ⟨rfl, rfl, h⟩ := h
  rw [bs_eq h]
theorem vls_inj {a b : List Vb} (h : vls a = vls b) : a = b := by
  induction a generalizing b with
  | nil => cases b with
    | nil => rfl
    | cons y b => simp [vls] at h
  | cons x a ih => cases b with
    | nil => simp [vls] at h
    | cons y b =>
      simp only [vls, List.map_cons, List.cons.injEq] at h
      rw [vl_inj h.1, ih h.2]
theorem vls_length (l : List Vb) : (vls l).length = l.length := List.length_map _
theorem vls_at (l : List Vb) (k : Nat) (h : k < l.length) : (vls l)[k]? = some (vl l[k]) := by simp [vls, h]

set_option maxRecDepth 100000 in
theorem infoV : (Tryz.prog.info? 25).map (fun i => (i.zero, i.size, i.bytes)) = some (some (.agg #[.int .i64 0, .int .i64 0, .string ByteArray.empty]), 3, 32) := by kernel_rfl
/-- values as cells -/
def P3 : List Vb → List Value
  | [] => []
  | t :: r => Value.int .i64 t.1 :: Value.int .i64 t.2.1 :: Value.string t.2.2 :: P3 r
theorem P3_append (a b : List Vb) : P3 (a ++ b) = P3 a ++ P3 b := by
  induction a with
  | nil => rfl
  | cons x r ih => simp [P3, ih]
theorem P3_at (l : List Vb) (i : Nat) (t : Vb) (h : l[i]? = some t) : (P3 l)[i * 3]? = some (.int .i64 t.1) ∧ (P3 l)[i * 3 + 1]? = some (.int .i64 t.2.1) ∧ (P3 l)[i * 3 + 2]? = some (.string t.2.2) := by
  induction l generalizing i with
  | nil => simp at h
  | cons x r ih =>
    cases i with
    | zero => simp at h; subst h; exact ⟨rfl, rfl, rfl⟩
    | succ i =>
      have := ih i (by simpa using h)
      rw [show (i + 1) * 3 = i * 3 + 1 + 1 + 1 by omega, show i * 3 + 1 + 1 + 1 + 1 = i * 3 + 1 + 1 + 1 + 1 by omega]
      rw [show i * 3 + 1 + 1 + 1 + 2 = i * 3 + 2 + 1 + 1 + 1 by omega]
      simpa [P3] using this
theorem P3_one (l : List Vb) : ∀ u ∈ P3 l, u.oneCell' = true := by
  induction l with
  | nil => intro u hu; cases hu
  | cons x r ih =>
    intro u hu
    simp [P3] at hu
    rcases hu with rfl | rfl | rfl | hu
    · rfl
    · rfl
    · rfl
    · exact ih u hu
/-- the slice value v is a row of the call's own, from block base on, and holds the values l -/
def OwnV (w : World) (base : Nat) (v : Value) (l : List Vb) : Prop := w.ownsRow base 25 3 v l.length (P3 l)
theorem OwnV.nil (w : World) (base : Nat) : OwnV w base (.slice none 0 0) [] := World.ownsRow_nil _ _ _ _
theorem OwnV.below {w w' : World} {base : Nat} {v : Value} {l : List Vb} (h : OwnV w base v l) (hb : Below w.heap.size w w') : OwnV w' base v l := owns_below h hb
theorem OwnV.alloc {w : World} {base : Nat} {v : Value} {l : List Vb} (h : OwnV w base v l) (o : Obj) : OwnV (w.alloc o) base v l := World.ownsRow.alloc h o
/-- a slice of values that lies below block B -/
def ValsAt (w : World) (B : Nat) (A : Option Addr) (l : List Vb) : Prop :=
  0 < l.length → ∃ b off, A = some ⟨b, off, none⟩ ∧ b < B ∧ ∀ j t, l[j]? = some t →
    w.cell? ⟨b, off + j * 3, none⟩ = some (.int .i64 t.1) ∧ w.cell? ⟨b, off + j * 3 + 1, none⟩ = some (.int .i64 t.2.1) ∧ w.cell? ⟨b, off + j * 3 + 2, none⟩ = some (.string t.2.2)
theorem ValsAt.of_own {w : World} {base : Nat} {v : Value} {l : List Vb} (h : OwnV w base v l) : ∃ A c, v = .slice A l.length c ∧ ValsAt w w.heap.size A l := by
  rcases h.2 with ⟨rfl, hl⟩ | ⟨g, cap, cur, rfl, hb, hg, _⟩
  · exact ⟨none, 0, by rw [hl], fun hp => absurd hp (by omega)⟩
  · refine ⟨some ⟨g, 0, none⟩, cap, rfl, fun _ => ⟨g, 0, rfl, (Array.getElem?_eq_some_iff.1 hg).1, fun j t hj => ?_⟩⟩
    obtain ⟨q1, q2, q3⟩ := P3_at l j t hj
    have r1 := World.ownsRow.cells h (g := g) rfl _ _ q1
    have r2 := World.ownsRow.cells h (g := g) rfl _ _ q2
    have r3 := World.ownsRow.cells h (g := g) rfl _ _ q3
    rw [Addr.add_lit] at r1 r2 r3
    exact ⟨r1, by rw [Nat.add_assoc]; exact r2, by rw [Nat.add_assoc]; exact r3⟩
theorem ValsAt.below {w w' : World} {B : Nat} {A : Option Addr} {l : List Vb} (h : ValsAt w B A l) (hb : Below B w w') : ValsAt w' B A l := fun hl => by
  obtain ⟨b, off, rfl, h1, h2⟩ := h hl
  exact ⟨b, off, rfl, h1, fun j t hj => ⟨(hb.cell (p := ⟨b, off + j * 3, none⟩) h1).trans (h2 j t hj).1, (hb.cell (p := ⟨b, off + j * 3 + 1, none⟩) h1).trans (h2 j t hj).2.1, (hb.cell (p := ⟨b, off + j * 3 + 2, none⟩) h1).trans (h2 j t hj).2.2⟩⟩
theorem ValsAt.more {w : World} {B B' : Nat} {A : Option Addr} {l : List Vb} (h : ValsAt w B A l) (hB : B ≤ B') : ValsAt w B' A l := fun hl => by
  obtain ⟨b, off, rfl, h1, h2⟩ := h hl
  exact ⟨b, off, rfl, by omega, h2⟩
theorem ValsAt.to {w w' : World} {A : Option Addr} {l : List Vb} (h : ValsAt w w.heap.size A l) (hb : Below w.heap.size w w') : ValsAt w' w'.heap.size A l := (h.below hb).more hb.size
/-- a row of one value, as a call makes it -/
theorem ValsAt.one (w : World) (k n : Int) (s : ByteArray) : ValsAt (w.alloc (.cells #[.int .i64 k, .int .i64 n, .string s] 25)) (w.alloc (.cells #[.int .i64 k, .int .i64 n, .string s] 25)).heap.size (some ⟨w.heap.size, 0, none⟩) [(k, n, s)] := fun _ => by
  refine ⟨w.heap.size, 0, rfl, by simp, fun j t hj => ?_⟩
  match j, hj with
  | 0, hj => simp at hj; subst hj; simp
/-- the cells of one element -/
theorem ValsAt.get {w : World} {B : Nat} {A : Option Addr} {l : List Vb} (h : ValsAt w B A l) (k : Nat) (hk : k < l.length) : ∃ b off, A = some ⟨b, off, none⟩ ∧ b < B ∧
    w.cell? ⟨b, off + k * 3, none⟩ = some (.int .i64 l[k].1) ∧ w.cell? ⟨b, off + k * 3 + 1, none⟩ = some (.int .i64 l[k].2.1) ∧ w.cell? ⟨b, off + k * 3 + 2, none⟩ = some (.string l[k].2.2) := by
  obtain ⟨b, off, rfl, h1, h2⟩ := h (by omega)
  exact ⟨b, off, rfl, h1, h2 k l[k] (by simp [hk])⟩

/-- values come in -/
def ValsIn (w : World) (a : Option Addr) (len : Nat) (l : List Vb) : Prop :=
  l.length = len ∧ len ≤ maxLen ∧ ValsAt w w.heap.size a l ∧ ∀ v ∈ l, (Lit.int .i64 v.1).wf = true ∧ (Lit.int .i64 v.2.1).wf = true ∧ v.2.2.size ≤ maxLen
theorem in64_of {l : List Vb} (h : ∀ v ∈ l, (Lit.int .i64 v.1).wf = true ∧ (Lit.int .i64 v.2.1).wf = true ∧ v.2.2.size ≤ maxLen) : ∀ v ∈ vls l, in64 v := fun v hv => by
  simp only [vls, List.mem_map] at hv
  obtain ⟨x, hx, rfl⟩ := hv
  exact wf64 (h x hx).2.1
end Go.Proofs.YtebldfnocpcddaaGreatDoor

/-
  The mathematics of keys (layer 7): the most significant bit turned; bytes put and read, the most significant one first.
-/
namespace Go.Proofs.YtebldfnocpcddaaGreatDoor
open Go.RowKit

theorem xor_hi (k r : Nat) (h : r < 2 ^ k) : r ^^^ 2 ^ k = r + 2 ^ k := by
  apply Nat.eq_of_testBit_eq
  intro i
  have e := Nat.testBit_two_pow_mul_add 1 h i
  rw [Nat.mul_one] at e
  rw [Nat.testBit_xor, Nat.add_comm r, e, Nat.testBit_two_pow]
  by_cases hi : i < k
  · simp [hi, show ¬ k = i by omega]
  · rw [if_neg hi, Nat.testBit_lt_two_pow (Nat.lt_of_lt_of_le h (Nat.pow_le_pow_right (by omega) (show k ≤ i by omega)))]
    by_cases hk : k = i
    · subst hk; simp
    · have : (1 : Nat).testBit (i - k) = false := Nat.testBit_lt_two_pow (Nat.one_lt_two_pow (by omega))
      simp [hk, this]
/-- the bit above k bits turned -/
theorem xor_top (k r : Nat) (h : r < 2 ^ (k + 1)) : r ^^^ 2 ^ k = (r + 2 ^ k) % 2 ^ (k + 1) := by
  rw [Nat.pow_succ] at h ⊢
  by_cases h1 : r < 2 ^ k
  · rw [xor_hi k r h1]
    generalize 2 ^ k = P at *
    rw [Nat.mod_eq_of_lt (by omega)]
  · obtain ⟨q, rfl⟩ : ∃ q, r = q + 2 ^ k := ⟨r - 2 ^ k, by omega⟩
    have hq : q < 2 ^ k := by omega
    have e := xor_hi k q hq
    rw [← e, Nat.xor_assoc, Nat.xor_self, Nat.xor_zero, e]
    generalize 2 ^ k = P at *
    rw [show q + P + P = q + P * 2 by omega, Nat.add_mod_right, Nat.mod_eq_of_lt (by omega)]
theorem be_mod (w n : Nat) : be w n = be w (n % 256 ^ w) := by
  induction w generalizing n with
  | zero => rfl
  | succ w ih =>
    rw [be_succ, be_succ]
    have e : n % 256 ^ (w + 1) / 256 ^ w % 256 = n / 256 ^ w % 256 := by
      rw [Nat.pow_succ, Nat.mod_mul_right_div_self, Nat.mod_mod]
    have e2 : be w (n % 256 ^ (w + 1)) = be w n := by
      rw [ih (n % 256 ^ (w + 1)), Nat.mod_mod_of_dvd _ ⟨256, by rw [Nat.pow_succ]⟩, ← ih n]
    rw [e, e2]
theorem be_at (w n : Nat) : ∀ j, j < w → (be w n)[j]? = some (UInt8.ofNat (n / 256 ^ (w - 1 - j) % 256)) := by
  induction w with
  | zero => intro j hj; omega
  | succ w ih =>
    intro j hj
    rw [be_succ]
    cases j with
    | zero => simp
    | succ j => rw [List.getElem?_cons_succ, ih j (by omega), show w + 1 - 1 - (j + 1) = w - 1 - j by omega]
theorem be_take (w n k : Nat) (hk : k < w) : (be w n).take (w - k) = (be w n).take (w - (k + 1)) ++ [UInt8.ofNat (n / 256 ^ k % 256)] := by
  have h := be_at w n (w - (k + 1)) (by omega)
  rw [show w - 1 - (w - (k + 1)) = k by omega] at h
  obtain ⟨h1, h2⟩ := List.getElem?_eq_some_iff.1 h
  rw [show w - k = w - (k + 1) + 1 by omega, List.take_succ_eq_append_getElem h1, h2]

/-- the number that is written for one of 32 bits -/
theorem put4 (n : Int) (h1 : -2147483648 ≤ n) (h2 : n < 2147483648) : ∃ W : Nat, bits .xor .u64 (IntKind.u64.wrap n) 2147483648 = (W : Int) ∧ W < 18446744073709551616 ∧ be 4 W = be 4 (n + 2147483648).toNat := by
  rw [IntKind.wrap_u64]
  obtain ⟨x, hx⟩ := Int.eq_ofNat_of_zero_le (a := n % 18446744073709551616) (by omega)
  rw [hx]
  refine ⟨x ^^^ 2147483648, bits_xor_u64_nat x 2147483648 (by omega) (by omega), Nat.xor_lt_two_pow (n := 64) (by omega) (by omega), ?_⟩
  rw [be_mod 4 (x ^^^ 2147483648)]
  have e : (x ^^^ 2147483648) % 256 ^ 4 = (n + 2147483648).toNat := by
    show (x ^^^ 2147483648) % 2 ^ 32 = _
    rw [Nat.xor_mod_two_pow]
    show x % 2 ^ 32 ^^^ 2 ^ 31 = _
    rw [xor_top 31 _ (Nat.mod_lt _ (by omega))]
    simp only [Nat.reducePow, Nat.reduceAdd]
    omega
  rw [e]
/-- the number that is written for one of 64 bits -/
theorem put8 (n : Int) (h1 : -9223372036854775808 ≤ n) (h2 : n < 9223372036854775808) : ∃ W : Nat, bits .xor .u64 (IntKind.u64.wrap n) 9223372036854775808 = (W : Int) ∧ W < 18446744073709551616 ∧ be 8 W = be 8 (n + 9223372036854775808).toNat := by
  rw [IntKind.wrap_u64]
  obtain ⟨x, hx⟩ := Int.eq_ofNat_of_zero_le (a := n % 18446744073709551616) (by omega)
  rw [hx]
  refine ⟨x ^^^ 9223372036854775808, bits_xor_u64_nat x 9223372036854775808 (by omega) (by omega), Nat.xor_lt_two_pow (n := 64) (by omega) (by omega), ?_⟩
  have e : x ^^^ 9223372036854775808 = (n + 9223372036854775808).toNat := by
    show x ^^^ 2 ^ 63 = _
    rw [xor_top 63 _ (by simp only [Nat.reducePow, Nat.reduceAdd]; omega)]
    simp only [Nat.reducePow, Nat.reduceAdd]
    omega
  rw [e]

theorem unbe_snoc (l : List UInt8) (c : UInt8) : unbe (l ++ [c]) = unbe l * 256 + c.toNat := by
  unfold unbe
  rw [List.reverse_append]
  show unle (c :: l.reverse) = _
  rw [unle]; omega
theorem unbe_take {l : List UInt8} {k : Nat} {c : UInt8} (h : l[k]? = some c) : unbe (l.take (k + 1)) = unbe (l.take k) * 256 + c.toNat := by
  obtain ⟨h1, rfl⟩ := List.getElem?_eq_some_iff.1 h
  rw [List.take_succ_eq_append_getElem h1, unbe_snoc]
theorem unbe_lt (l : List UInt8) : unbe l < 256 ^ l.length := by
  have := unle_lt l.reverse
  rw [List.length_reverse] at this; exact this
/-- one byte more, the most significant one first, as the program puts it -/
theorem or_low (x c : Nat) (hc : c < 256) (hx : x < 72057594037927936) : bits BinOp.or IntKind.u64 (IntKind.u64.wrap ((x : Int) * 256)) (c : Int) = ((x * 256 + c : Nat) : Int) := by
  rw [IntKind.wrap_u64, show ((x : Int) * 256) % 18446744073709551616 = ((x * 256 : Nat) : Int) by omega, u64_or_nat _ _ (by omega) (by omega), nat_join 8 _ _ (by omega) (by simpa using hc)]
theorem get4 (x : Nat) (h : x < 4294967296) : IntKind.i32.wrap ((x ^^^ 2147483648 : Nat) : Int) = (x : Int) - 2147483648 := by
  have e := xor_top 31 x h
  simp only [Nat.reducePow, Nat.reduceAdd] at e
  rw [e]
  simp [IntKind.wrap, IntKind.bits, IntKind.signed]; omega
theorem get8 (x : Nat) (h : x < 18446744073709551616) : IntKind.i64.wrap ((x ^^^ 9223372036854775808 : Nat) : Int) = (x : Int) - 9223372036854775808 := by
  have e := xor_top 63 x h
  simp only [Nat.reducePow, Nat.reduceAdd] at e
  rw [e, wrap_i64_eq]
  omega
end Go.Proofs.YtebldfnocpcddaaGreatDoor

/-
  Contracts of package sortkey: topBit, appendNumber, appendString, appendKey.
-/
namespace Go.Proofs.YtebldfnocpcddaaGreatDoor
open Go.RowKit

theorem esc_append : ∀ (a b : List UInt8), esc (a ++ b) = esc a ++ esc b
  | [], b => rfl
  | c :: r, b => by
    have ih := esc_append r b
    by_cases h : c = 0 <;> simp [esc, h, ih]
theorem esc_len : ∀ l : List UInt8, (esc l).length ≤ 2 * l.length
  | [] => by simp [esc]
  | c :: r => by
    have ih := esc_len r
    by_cases h : c = 0 <;> simp [esc, h] <;> omega
theorem esc_at0 {l : List UInt8} {k : Nat} {c : UInt8} (h : l[k]? = some c) (hc : c = 0) : esc (l.take (k + 1)) = esc (l.take k) ++ [c] ++ [255] := by
  obtain ⟨h1, rfl⟩ := List.getElem?_eq_some_iff.1 h
  rw [List.take_succ_eq_append_getElem h1, esc_append, hc]; simp [esc]
theorem esc_at1 {l : List UInt8} {k : Nat} {c : UInt8} (h : l[k]? = some c) (hc : c ≠ 0) : esc (l.take (k + 1)) = esc (l.take k) ++ [c] := by
  obtain ⟨h1, rfl⟩ := List.getElem?_eq_some_iff.1 h
  rw [List.take_succ_eq_append_getElem h1, esc_append]; simp [esc, hc]
/-- two bytes appended -/
theorem wpList_append_byte2 {w : World} {ops : Array Oper} {rest : List Oper} {o : Oper} {a : Act} {Q : Exit → Act → World → Prop} (hgd : o.guard = none) (s x : Operand)
    (ho : o.op = .call { callee := .builtin .append, args := #[s, x], argTypes := #[47, 47] })
    (base : Nat) (v : Value) (l : List UInt8) (c d : UInt8) (z y : Int)
    (hown : OwnB w base v l) (hs : a.eval s = v) (hx : a.eval x = .slice (some ⟨w.heap.size, 0, none⟩) 2 2) (hz : z = (c.toNat : Int)) (hy : y = (d.toNat : Int)) (hlen : l.length < 1099511627000) (hbase : base ≤ w.heap.size)
    (h : ∀ v' w', OwnB w' base v' (l ++ [c, d]) → Below base w w' → wpList Tryz.prog ops Q rest (a.put o.dst v') w') :
    wpList Tryz.prog ops Q (o :: rest) a (w.alloc (.cells #[.int .u8 z, .int .u8 y] 5)) := by
  subst hz hy
  obtain ⟨i0, hi, hz0, hz1, hz2⟩ := info_parts info8
  refine wpList_append_own _ hgd s x 47 ho base 5 i0 (.int .u8 0) 1 1 Tryz.underlying47 hi hz0 hz1 hz2 rfl (by decide) v l.length (B8 l) hs (World.ownsRow.alloc hown _)
    ⟨w.heap.size, 0, none⟩ 2 2 [.int .u8 (c.toNat : Int), .int .u8 (d.toNat : Int)] hx rfl (fun j u hj => ?_) (fun u hu => ?_) (by unfold maxLen; omega) (by omega) (by simp; omega) ?_
  · match j, hj with
    | 0, hj => simp at hj; subst hj; simp [Addr.add]
    | 1, hj => simp at hj; subst hj; simp [Addr.add]
    | j + 2, hj => simp at hj
  · simp at hu; rcases hu with rfl | rfl <;> rfl
  · intro v' w' h1 h2 _
    refine h v' w' ?_ (((Below.refl base w).alloc hbase _).grown h2 (by simp; omega) (fun k hk => ?_))
    · unfold OwnB
      rw [B8_append, List.length_append]
      exact h1
    · exact ((World.ownsRow.lt hown) k hk).1
theorem u8_zero {c : UInt8} (h : c.toNat = 0) : c = 0 := UInt8.toNat_inj.1 h
theorem u8_nonzero {c : UInt8} (h : ¬ c.toNat = 0) : c ≠ 0 := fun e => h (by rw [e]; rfl)

/-- one byte appended, while a block of three cells lies aside -/
theorem wpList_append_byte_keep {w : World} {ops : Array Oper} {rest : List Oper} {o : Oper} {a : Act} {Q : Exit → Act → World → Prop} (hgd : o.guard = none) (s x : Operand)
    (ho : o.op = .call { callee := .builtin .append, args := #[s, x], argTypes := #[47, 47] })
    (base : Nat) (v : Value) (l : List UInt8) (c : UInt8) (z : Int) (b g : Nat) (x0 x1 x2 : Value)
    (hown : OwnB w base v l) (hs : a.eval s = v) (hx : a.eval x = .slice (some ⟨g, 0, none⟩) 1 1) (hg : g = w.heap.size) (hz : z = (c.toNat : Int)) (hlen : l.length < 1099511627776) (hbase : base ≤ w.heap.size)
    (hk : Blk3 w b x0 x1 x2) (hlt : b < w.heap.size) (hne : some b ≠ v.ownBlock)
    (h : ∀ v' w', OwnB w' base v' (l ++ [c]) → Below base w w' → Blk3 w' b x0 x1 x2 → b < w'.heap.size → wpList Tryz.prog ops Q rest (a.put o.dst v') w') :
    wpList Tryz.prog ops Q (o :: rest) a (w.alloc (.cells #[.int .u8 z] 5)) := by
  subst hz hg
  obtain ⟨i0, hi, hz0, hz1, hz2⟩ := info_parts info8
  refine wpList_append_own _ hgd s x 47 ho base 5 i0 (.int .u8 0) 1 1 Tryz.underlying47 hi hz0 hz1 hz2 rfl (by decide) v l.length (B8 l) hs (World.ownsRow.alloc hown _)
    ⟨w.heap.size, 0, none⟩ 1 1 [.int .u8 (c.toNat : Int)] hx rfl (fun j u hj => ?_) (fun u hu => ?_) (by unfold maxLen; omega) (by omega) (by simp; omega) ?_
  · match j, hj with
    | 0, hj => simp at hj; subst hj; simp [Addr.add]
  · simp at hu; subst hu; rfl
  · intro v' w' h1 h2 _
    have hsz := h2.size
    simp at hsz
    have q : ∀ i, w'.cell? ⟨b, i, none⟩ = w.cell? ⟨b, i, none⟩ ∧ w'.frozen? ⟨b, i, none⟩ = w.frozen? ⟨b, i, none⟩ := fun i => by
      have h3 := (Below.refl w.heap.size w).alloc (Nat.le_refl _) (.cells #[.int .u8 (c.toNat : Int)] 5)
      have e := h2.block b (by simp; omega) hne
      exact ⟨(World.cell?_of_block (w := w.alloc (.cells #[.int .u8 (c.toNat : Int)] 5)) e).trans (h3.cell (p := ⟨b, i, none⟩) hlt), (World.frozen?_of_block (w := w.alloc (.cells #[.int .u8 (c.toNat : Int)] 5)) e).trans (h3.frozen (p := ⟨b, i, none⟩) hlt)⟩
    obtain ⟨c0, c1, c2, f0, f1, f2⟩ := hk
    refine h v' w' ?_ (((Below.refl base w).alloc hbase _).grown h2 (by simp; omega) (fun k hk => ?_)) ⟨(q 0).1.trans c0, (q 1).1.trans c1, (q 2).1.trans c2, (q 0).2.trans f0, (q 1).2.trans f1, (q 2).2.trans f2⟩ (by omega)
    · unfold OwnB
      rw [B8_append, List.length_append]
      exact h1
    · exact ((World.ownsRow.lt hown) k hk).1
/-- the key of a value lies behind the row -/
def PutKey (w : World) (B : Nat) (l : List UInt8) (e : Ending) (w' : World) : Prop := ∃ v', e = .returned v' ∧ OwnB w' B v' l ∧ Below B w w'
theorem own_far {w : World} {B : Nat} {v : Value} {l : List UInt8} (h : OwnB w B v l) : some w.heap.size ≠ v.ownBlock := fun e => by
  have := (World.ownsRow.lt h _ e.symm).2
  omega
theorem kind_byte {k : Int} (c : UInt8) (h : (c.toNat : Int) = k) (h2 : 0 ≤ k ∧ k < 256) : k % 256 = (c.toNat : Int) := by omega

end Go.Proofs.YtebldfnocpcddaaGreatDoor

/-
  Contract of package sortkey's Of.
-/
namespace Go.Proofs.YtebldfnocpcddaaGreatDoor
open Go.RowKit

theorem bthen {w a b : World} (h : Below w.heap.size w a) (h2 : Below a.heap.size a b) : Below w.heap.size w b := h.trans (h2.mono h.size)
theorem new_lt' {w w1 : World} {o : Obj} (hb : Below (w.alloc o).heap.size (w.alloc o) w1) : w.heap.size < w1.heap.size := by have := hb.size; simp at this; omega
/-- are all of them right? -/
def allR (l : List Vl) : Bool := l.all rightL
theorem allR_take {l : List Vl} (h : allR l = true) (k : Nat) : allR (l.take k) = true := by
  unfold allR at *
  rw [List.all_eq_true] at *
  exact fun x hx => h x (List.mem_of_mem_take hx)
theorem allR_not {l : List Vl} {k : Nat} {v : Vl} (hk : l[k]? = some v) (hv : rightL v = false) : allR l = false := by
  cases h : allR l with
  | false => rfl
  | true =>
    unfold allR at h
    rw [List.all_eq_true] at h
    have := h v (List.mem_of_getElem? hk)
    rw [hv] at this; cases this
theorem allR_of {l : List Vl} (h : ∀ (k : Nat) v, l[k]? = some v → rightL v = true) : allR l = true := by
  unfold allR
  rw [List.all_eq_true]
  intro x hx
  obtain ⟨k, hk⟩ := List.mem_iff_getElem?.1 hx
  exact h k x hk
/-- what Of returns -/
def ofV (l : List Vl) : Value := if allR l then .tuple #[.string ⟨(ofK l).toArray⟩, .int .i64 0] else .tuple #[.string ⟨#[]⟩, .int .i64 2]
theorem key_len {k n : Int} {l : List UInt8} (h : rightV k n l = true) : (key k n l).length ≤ 243 := by
  rcases rightV_form h with ⟨rfl, rfl, rfl⟩ | ⟨rfl, p1, p2, rfl⟩ | ⟨rfl, rfl⟩ | ⟨rfl, rfl, hl, hs⟩ | ⟨rfl, rfl, hl⟩
  · simp [key_0]
  · rw [key_1, List.length_cons, be_length]; omega
  · rw [key_2, List.length_cons, be_length]; omega
  · have := esc_len l
    rw [key_3, List.length_cons, List.length_append]; simp; omega
  · have := esc_len l
    rw [key_4, List.length_cons, List.length_append]; simp; omega
theorem ofK_len : ∀ {l : List Vl}, allR l = true → (ofK l).length ≤ 243 * l.length
  | [], _ => by simp [ofK]
  | v :: l, h => by
    have h' : rightL v = true ∧ allR l = true := by simpa [allR] using h
    have ih := ofK_len h'.2
    have := key_len (k := v.1) (n := v.2.1) (l := v.2.2) h'.1
    rw [ofK_cons, List.length_append, List.length_cons]
    unfold keyL; omega
theorem ofK_take {l : List Vl} {k : Nat} {v : Vl} (h : l[k]? = some v) : ofK (l.take (k + 1)) = ofK (l.take k) ++ keyL v := by
  obtain ⟨h1, rfl⟩ := List.getElem?_eq_some_iff.1 h
  rw [List.take_succ_eq_append_getElem h1, ofK_snoc]

end Go.Proofs.YtebldfnocpcddaaGreatDoor
