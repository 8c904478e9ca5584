/-
  Texts that the proof needs, one behind the other: SkMath, SkReadMath, ValOpen, SkRows, SchMath, SchRows, SchOwn, SkBitMath, SkPutC, SkOfC, SchFirstC, SchFindC, SchOpen, HasB, ValDigC, ValRefDigC, TypCastC, TypWidenMath, DdlMath, DdlMath2, DdlRows, DdlOpen, SchColC, SchRefC, DdlSmallC.
-/
import Derived.Lib.SmallJoins
import Derived.ProofKit
import Derived.OpenShut
import Derived.ShutString
import Derived.ChangeOld
import Derived.Deep.Slices
import Derived.Deep.Strs
import Derived.ChangeArms
import Derived.Laws.OwnMore
import Derived.Shelf.Abstract
import Derived.Test.YtlbdbaafmdikcaaGreatDoorPart1

/-
  The mathematics of keys (layer 7): the key of a value, its order, no key begins with another one.
-/
namespace Go.Proofs.YtlbdbaafmdikcaaGreatDoor

theorem cmpI_lt {a b : Int} (h : a < b) : cmpI a b = -1 := if_pos h
theorem cmpI_gt {a b : Int} (h : b < a) : cmpI a b = 1 := by unfold cmpI; rw [if_neg (by omega), if_pos h]
theorem cmpI_add (a b c : Int) : cmpI (a + c) (b + c) = cmpI a b := by
  unfold cmpI
  by_cases h1 : a < b
  · rw [if_pos h1, if_pos (by omega)]
  · by_cases h2 : b < a
    · rw [if_neg h1, if_pos h2, if_neg (by omega), if_pos (by omega)]
    · rw [if_neg h1, if_neg h2, if_neg (by omega), if_neg (by omega)]
/-- the most significant byte first -/
def be (w n : Nat) : List UInt8 := (le w n).reverse
theorem be_succ (w n : Nat) : be (w + 1) n = UInt8.ofNat (n / 256 ^ w % 256) :: be w n := by
  unfold be
  rw [le_snoc, List.reverse_append]; rfl
theorem be_length (w n : Nat) : (be w n).length = w := by unfold be; rw [List.length_reverse, le_length]
theorem be_ord (w : Nat) : ∀ (a b : Nat) (s t : List UInt8), ordN (be w a ++ s) (be w b ++ t) = if a % 256 ^ w = b % 256 ^ w then ordN s t else cmpI ((a % 256 ^ w : Nat) : Int) ((b % 256 ^ w : Nat) : Int) := by
  induction w with
  | zero =>
    intro a b s t
    rw [if_pos (by simp [Nat.mod_one])]; rfl
  | succ w ih =>
    intro a b s t
    rw [be_succ, be_succ, List.cons_append, List.cons_append, ordN, ih a b s t]
    have ha := Nat.mod_pow_succ (x := a) (b := 256) (k := w)
    have hb := Nat.mod_pow_succ (x := b) (b := 256) (k := w)
    have pa : a % 256 ^ w < 256 ^ w := Nat.mod_lt _ (Nat.pow_pos (by omega))
    have pb : b % 256 ^ w < 256 ^ w := Nat.mod_lt _ (Nat.pow_pos (by omega))
    have qa : a / 256 ^ w % 256 < 256 := Nat.mod_lt _ (by omega)
    have qb : b / 256 ^ w % 256 < 256 := Nat.mod_lt _ (by omega)
    have ta : (UInt8.ofNat (a / 256 ^ w % 256)).toNat = a / 256 ^ w % 256 := by simp
    have tb : (UInt8.ofNat (b / 256 ^ w % 256)).toNat = b / 256 ^ w % 256 := by simp
    rw [ta, tb, ha, hb]
    clear ta tb ha hb ih
    generalize a / 256 ^ w % 256 = x at *
    generalize b / 256 ^ w % 256 = y at *
    generalize a % 256 ^ w = u at *
    generalize b % 256 ^ w = v at *
    generalize 256 ^ w = P at *
    by_cases h1 : x < y
    · have : P * (x + 1) ≤ P * y := Nat.mul_le_mul_left P (by omega)
      rw [Nat.mul_add, Nat.mul_one] at this
      rw [if_pos h1, if_neg (by omega), cmpI_lt (by omega)]
    · by_cases h2 : y < x
      · have : P * (y + 1) ≤ P * x := Nat.mul_le_mul_left P (by omega)
        rw [Nat.mul_add, Nat.mul_one] at this
        rw [if_neg h1, if_pos h2, if_neg (by omega), cmpI_gt (by omega)]
      · obtain rfl : x = y := by omega
        rw [if_neg h1, if_neg h2]
        by_cases h3 : u = v
        · rw [if_pos h3, if_pos (by omega)]
        · rw [if_neg h3, if_neg (by omega), Int.natCast_add, Int.natCast_add, cmpI_add]

/-- bytes with each 0 marked -/
def esc : List UInt8 → List UInt8
  | [] => []
  | c :: r => if c = 0 then 0 :: 255 :: esc r else c :: esc r
theorem esc_ord : ∀ (l m s t : List UInt8), ordN (esc l ++ (0 :: 0 :: s)) (esc m ++ (0 :: 0 :: t)) = if l = m then ordN s t else ordN l m
  | [], [], s, t => by simp [esc, ordN]
  | [], b :: m, s, t => by
    rw [if_neg (by simp)]
    unfold esc
    by_cases hb : b = 0
    · subst hb
      simp [ordN]
    · have : 0 < b.toNat := by
        have : b.toNat ≠ 0 := fun h => hb (UInt8.toNat_inj.1 h)
        omega
      simp [hb, ordN, this]
  | a :: l, [], s, t => by
    rw [if_neg (by simp)]
    unfold esc
    by_cases ha : a = 0
    · subst ha
      simp [ordN]
    · have : 0 < a.toNat := by
        have : a.toNat ≠ 0 := fun h => ha (UInt8.toNat_inj.1 h)
        omega
      simp [ha, ordN, this]
  | a :: l, b :: m, s, t => by
    have ih := esc_ord l m s t
    by_cases hab : a = b
    · subst hab
      have e : (a :: l = a :: m) = (l = m) := by simp
      by_cases ha : a = 0
      · subst ha
        simp only [esc, if_true, List.cons_append, ordN, Nat.lt_irrefl, if_false, ih, List.cons.injEq, true_and]
      · simp only [esc, if_neg ha, List.cons_append, ordN, Nat.lt_irrefl, if_false, ih, List.cons.injEq, true_and]
    · have hn : a.toNat ≠ b.toNat := fun h => hab (UInt8.toNat_inj.1 h)
      rw [if_neg (by simp [hab])]
      have head : ∀ (c : UInt8) (r : List UInt8), ∃ q, esc (c :: r) = c :: q := fun c r => by
        unfold esc
        by_cases hc : c = 0
        · exact ⟨_, by rw [if_pos hc, hc]⟩
        · exact ⟨_, by rw [if_neg hc]⟩
      obtain ⟨p, hp⟩ := head a l
      obtain ⟨q, hq⟩ := head b m
      rw [hp, hq, List.cons_append, List.cons_append, ordN, ordN]
      by_cases h1 : a.toNat < b.toNat
      · rw [if_pos h1, if_pos h1]
      · rw [if_neg h1, if_neg h1, if_pos (by omega), if_pos (by omega)]

/-- the key of a value -/
def key (k n : Int) (l : List UInt8) : List UInt8 :=
  if k = 1 then 1 :: be 4 (n + 2147483648).toNat else if k = 2 then 2 :: be 8 (n + 9223372036854775808).toNat else if k = 3 then 3 :: (esc l ++ [0, 0]) else if k = 4 then 4 :: (esc l ++ [0, 0]) else [0]
theorem key_1 (n : Int) (l : List UInt8) : key 1 n l = 1 :: be 4 (n + 2147483648).toNat := rfl
theorem key_2 (n : Int) (l : List UInt8) : key 2 n l = 2 :: be 8 (n + 9223372036854775808).toNat := rfl
theorem key_3 (n : Int) (l : List UInt8) : key 3 n l = 3 :: (esc l ++ [0, 0]) := rfl
theorem key_4 (n : Int) (l : List UInt8) : key 4 n l = 4 :: (esc l ++ [0, 0]) := rfl
theorem key_0 (n : Int) (l : List UInt8) : key 0 n l = [0] := rfl
/-- a right value: its shape -/
theorem rightV_form {k n : Int} {l : List UInt8} (h : rightV k n l = true) : (k = 0 ∧ n = 0 ∧ l = []) ∨ (k = 1 ∧ -2147483648 ≤ n ∧ n < 2147483648 ∧ l = []) ∨ (k = 2 ∧ l = []) ∨ (k = 3 ∧ n = 0 ∧ l.length ≤ 120 ∧ (sg l).isSome = true) ∨ (k = 4 ∧ n = 0 ∧ l.length ≤ 120) := by
  rcases rightV_cases k n l with ⟨rfl, hv⟩ | ⟨rfl, hv⟩ | ⟨rfl, hv⟩ | ⟨rfl, hv⟩ | ⟨rfl, hv⟩ | ⟨_, _, _, _, _, hv⟩
  · rw [hv] at h; simp at h; exact .inl ⟨rfl, h.1, h.2⟩
  · rw [hv, fitsB_eq n 32 (by omega)] at h
    simp at h
    exact .inr (.inl ⟨rfl, h.1.1, h.1.2, h.2⟩)
  · rw [hv] at h; simp at h; exact .inr (.inr (.inl ⟨rfl, h⟩))
  · rw [hv] at h; simp at h; exact .inr (.inr (.inr (.inl ⟨rfl, h.1.1, h.1.2, h.2⟩)))
  · rw [hv] at h; simp at h; exact .inr (.inr (.inr (.inr ⟨rfl, h.1, h.2⟩)))
  · rw [hv] at h; cases h
theorem key_head {k n : Int} {l : List UInt8} (h : rightV k n l = true) : ∃ r, key k n l = UInt8.ofNat k.toNat :: r ∧ 0 ≤ k ∧ k ≤ 4 := by
  rcases rightV_form h with ⟨rfl, _⟩ | ⟨rfl, _⟩ | ⟨rfl, _⟩ | ⟨rfl, _⟩ | ⟨rfl, _⟩
  all_goals exact ⟨_, rfl, by decide, by decide⟩
theorem ordV_kind {k k' n n' : Int} {l l' : List UInt8} (h : k ≠ k') : ordV k n l k' n' l' = cmpI k k' := by
  unfold ordV or3
  rw [if_pos]
  unfold cmpI
  by_cases h1 : k < k'
  · rw [if_pos h1]; decide
  · rw [if_neg h1, if_pos (by omega)]; decide
theorem ordV_num {k n n' : Int} {l l' : List UInt8} (h : n ≠ n') : ordV k n l k n' l' = cmpI n n' := by
  have hk : cmpI k k = 0 := by unfold cmpI; rw [if_neg (by omega), if_neg (by omega)]
  unfold ordV or3
  rw [hk, if_neg (by simp), if_pos]
  unfold cmpI
  by_cases h1 : n < n'
  · rw [if_pos h1]; decide
  · rw [if_neg h1, if_pos (by omega)]; decide
theorem ordV_str {k n : Int} {l l' : List UInt8} : ordV k n l k n l' = ordN l l' := by
  have hk : ∀ x : Int, cmpI x x = 0 := fun x => by unfold cmpI; rw [if_neg (by omega), if_neg (by omega)]
  unfold ordV or3
  rw [hk, hk, if_neg (by simp), if_neg (by simp)]
/-- keys stand as their values do, whatever stands behind them -/
theorem key_ord {k n k' n' : Int} {l l' : List UInt8} (h : rightV k n l = true) (h' : rightV k' n' l' = true) (b1 : -9223372036854775808 ≤ n) (b2 : n < 9223372036854775808) (b3 : -9223372036854775808 ≤ n') (b4 : n' < 9223372036854775808) (s t : List UInt8) :
    ordN (key k n l ++ s) (key k' n' l' ++ t) = if k = k' ∧ n = n' ∧ l = l' then ordN s t else ordV k n l k' n' l' := by
  by_cases hk : k = k'
  · subst hk
    have skip : ∀ (c : UInt8) (p q : List UInt8), ordN (c :: p) (c :: q) = ordN p q := fun c p q => by rw [ordN, if_neg (by omega), if_neg (by omega)]
    rcases rightV_form h with ⟨rfl, rfl, rfl⟩ | ⟨rfl, p1, p2, rfl⟩ | ⟨rfl, rfl⟩ | ⟨rfl, rfl, _⟩ | ⟨rfl, rfl, _⟩
    · rcases rightV_form h' with ⟨_, rfl, rfl⟩ | ⟨q, _⟩ | ⟨q, _⟩ | ⟨q, _⟩ | ⟨q, _⟩
      · rw [if_pos ⟨rfl, rfl, rfl⟩]
        exact skip _ _ _
      all_goals omega
    · rcases rightV_form h' with ⟨q, _⟩ | ⟨_, q1, q2, rfl⟩ | ⟨q, _⟩ | ⟨q, _⟩ | ⟨q, _⟩
      · omega
      · rw [key_1, key_1, List.cons_append, List.cons_append, skip, be_ord]
        rw [Nat.mod_eq_of_lt (by omega), Nat.mod_eq_of_lt (by omega)]
        by_cases hn : n = n'
        · subst hn; rw [if_pos rfl, if_pos ⟨rfl, rfl, rfl⟩]
        · rw [if_neg (by omega), if_neg (fun e => hn e.2.1), ordV_num hn, ← cmpI_add n n' 2147483648, Int.toNat_of_nonneg (by omega), Int.toNat_of_nonneg (by omega)]
      all_goals omega
    · rcases rightV_form h' with ⟨q, _⟩ | ⟨q, _⟩ | ⟨_, rfl⟩ | ⟨q, _⟩ | ⟨q, _⟩
      · omega
      · omega
      · rw [key_2, key_2, List.cons_append, List.cons_append, skip, be_ord]
        rw [Nat.mod_eq_of_lt (by omega), Nat.mod_eq_of_lt (by omega)]
        by_cases hn : n = n'
        · subst hn; rw [if_pos rfl, if_pos ⟨rfl, rfl, rfl⟩]
        · rw [if_neg (by omega), if_neg (fun e => hn e.2.1), ordV_num hn, ← cmpI_add n n' 9223372036854775808, Int.toNat_of_nonneg (by omega), Int.toNat_of_nonneg (by omega)]
      all_goals omega
    · rcases rightV_form h' with ⟨q, _⟩ | ⟨q, _⟩ | ⟨q, _⟩ | ⟨_, rfl, _⟩ | ⟨q, _⟩
      · omega
      · omega
      · omega
      · rw [key_3, key_3, List.cons_append, List.cons_append, skip, List.append_assoc, List.append_assoc]
        show ordN (esc l ++ (0 :: 0 :: s)) (esc l' ++ (0 :: 0 :: t)) = _
        rw [esc_ord, ordV_str]
        by_cases hl : l = l'
        · rw [if_pos hl, if_pos ⟨rfl, rfl, hl⟩]
        · rw [if_neg hl, if_neg (fun e => hl e.2.2)]
      · omega
    · rcases rightV_form h' with ⟨q, _⟩ | ⟨q, _⟩ | ⟨q, _⟩ | ⟨q, _⟩ | ⟨_, rfl, _⟩
      · omega
      · omega
      · omega
      · omega
      · rw [key_4, key_4, List.cons_append, List.cons_append, skip, List.append_assoc, List.append_assoc]
        show ordN (esc l ++ (0 :: 0 :: s)) (esc l' ++ (0 :: 0 :: t)) = _
        rw [esc_ord, ordV_str]
        by_cases hl : l = l'
        · rw [if_pos hl, if_pos ⟨rfl, rfl, hl⟩]
        · rw [if_neg hl, if_neg (fun e => hl e.2.2)]
  · rw [if_neg (fun e => hk e.1), ordV_kind hk]
    obtain ⟨p, hp, a1, a2⟩ := key_head h
    obtain ⟨q, hq, c1, c2⟩ := key_head h'
    rw [hp, hq, List.cons_append, List.cons_append, ordN]
    have e1 : (UInt8.ofNat k.toNat).toNat = k.toNat := by simp; omega
    have e2 : (UInt8.ofNat k'.toNat).toNat = k'.toNat := by simp; omega
    rw [e1, e2]
    by_cases h1 : k < k'
    · rw [cmpI_lt h1, if_pos (by omega)]
    · rw [cmpI_gt (by omega), if_neg (by omega), if_pos (by omega)]
theorem ordV_none {k n k' n' : Int} {l l' : List UInt8} (h : ordV k n l k' n' l' = 0) : k = k' ∧ n = n' ∧ l = l' := by
  have cz : ∀ {a b : Int}, a ≠ b → cmpI a b ≠ 0 := fun {a b} hne => by
    unfold cmpI
    by_cases h1 : a < b
    · rw [if_pos h1]; decide
    · rw [if_neg h1, if_pos (by omega)]; decide
  by_cases hk : k = k'
  · subst hk
    by_cases hn : n = n'
    · subst hn
      rw [ordV_str] at h
      exact ⟨rfl, rfl, ordN_zero h⟩
    · rw [ordV_num hn] at h
      exact absurd h (cz hn)
  · rw [ordV_kind hk] at h
    exact absurd h (cz hk)
/-- a key says its value, whatever stands behind it -/
theorem key_inj {k n k' n' : Int} {l l' : List UInt8} (h : rightV k n l = true) (h' : rightV k' n' l' = true) (b1 : -9223372036854775808 ≤ n) (b2 : n < 9223372036854775808) (b3 : -9223372036854775808 ≤ n') (b4 : n' < 9223372036854775808) {s t : List UInt8}
    (e : key k n l ++ s = key k' n' l' ++ t) : k = k' ∧ n = n' ∧ l = l' := by
  have ho := key_ord h h' b1 b2 b3 b4 s t
  rw [e, ordN_self] at ho
  by_cases hv : k = k' ∧ n = n' ∧ l = l'
  · exact hv
  · rw [if_neg hv] at ho
    exact absurd (ordV_none ho.symm) hv
end Go.Proofs.YtlbdbaafmdikcaaGreatDoor

/-
  The mathematics of keys (layer 7): several keys, reading back, the next text.
-/
namespace Go.Proofs.YtlbdbaafmdikcaaGreatDoor

abbrev Vl := Int × Int × List UInt8
def rightL (v : Vl) : Bool := rightV v.1 v.2.1 v.2.2
def in64 (v : Vl) : Prop := -9223372036854775808 ≤ v.2.1 ∧ v.2.1 < 9223372036854775808
def keyL (v : Vl) : List UInt8 := key v.1 v.2.1 v.2.2
/-- several keys, one behind the other -/
def ofK (l : List Vl) : List UInt8 := l.flatMap keyL
theorem ofK_cons (v : Vl) (l : List Vl) : ofK (v :: l) = keyL v ++ ofK l := rfl
theorem ofK_snoc (l : List Vl) (v : Vl) : ofK (l ++ [v]) = ofK l ++ keyL v := by simp [ofK]
/-- the order of several values -/
def ordL : List Vl → List Vl → Int
  | [], [] => 0
  | [], _ :: _ => -1
  | _ :: _, [] => 1
  | a :: r, b :: s => if ordV a.1 a.2.1 a.2.2 b.1 b.2.1 b.2.2 ≠ 0 then ordV a.1 a.2.1 a.2.2 b.1 b.2.1 b.2.2 else ordL r s
theorem of_ord : ∀ (a b : List Vl), (∀ v ∈ a, rightL v = true ∧ in64 v) → (∀ v ∈ b, rightL v = true ∧ in64 v) → ordN (ofK a) (ofK b) = ordL a b
  | [], [], _, _ => rfl
  | [], v :: b, _, hb => by
    obtain ⟨r, hr, _⟩ := key_head (hb v (by simp)).1
    rw [ofK_cons, show keyL v = _ from hr]; rfl
  | v :: a, [], ha, _ => by
    obtain ⟨r, hr, _⟩ := key_head (ha v (by simp)).1
    rw [ofK_cons, show keyL v = _ from hr]; rfl
  | v :: a, w :: b, ha, hb => by
    have ih := of_ord a b (fun x hx => ha x (by simp [hx])) (fun x hx => hb x (by simp [hx]))
    obtain ⟨v1, v2, v3⟩ := ha v (by simp)
    obtain ⟨w1, w2, w3⟩ := hb w (by simp)
    rw [ofK_cons, ofK_cons, ordL]
    unfold keyL
    rw [key_ord v1 w1 v2 v3 w2 w3, ih]
    by_cases h : v.1 = w.1 ∧ v.2.1 = w.2.1 ∧ v.2.2 = w.2.2
    · rw [if_pos h, if_neg]
      rw [h.1, h.2.1, h.2.2, ordV_str, ordN_self]; simp
    · rw [if_neg h, if_pos (fun e => h (ordV_none e))]

/-- the bytes up to their end: the bytes, how many were taken, 0 or the error -/
def scan : List UInt8 → List UInt8 × Nat × Nat
  | [] => ([], 0, 4)
  | [c] => if c = 0 then ([], 0, 4) else ([c], 1, 4)
  | c :: d :: r => if c = 0 then (if d = 255 then (0 :: (scan r).1, (scan r).2.1 + 2, (scan r).2.2) else if d = 0 then ([], 2, 0) else ([], 0, 5)) else (c :: (scan (d :: r)).1, (scan (d :: r)).2.1 + 1, (scan (d :: r)).2.2)
theorem scan_nil : scan [] = ([], 0, 4) := by simp [scan]
theorem scan_cons {c : UInt8} (r : List UInt8) (h : c ≠ 0) : scan (c :: r) = (c :: (scan r).1, (scan r).2.1 + 1, (scan r).2.2) := by
  cases r with
  | nil => simp [scan, h]
  | cons d r => simp [scan, h]
theorem scan_mark (r : List UInt8) : scan (0 :: 255 :: r) = (0 :: (scan r).1, (scan r).2.1 + 2, (scan r).2.2) := by simp [scan]
theorem scan_end (r : List UInt8) : scan (0 :: 0 :: r) = ([], 2, 0) := by simp [scan]
theorem scan_cut : scan [0] = ([], 0, 4) := by simp [scan]
theorem scan_bad {d : UInt8} (r : List UInt8) (h1 : d ≠ 255) (h2 : d ≠ 0) : scan (0 :: d :: r) = ([], 0, 5) := by simp [scan, h1, h2]
theorem scan_esc : ∀ (l s : List UInt8), scan (esc l ++ (0 :: 0 :: s)) = (l, (esc l).length + 2, 0)
  | [], s => by rw [esc]; exact scan_end s
  | c :: r, s => by
    have ih := scan_esc r s
    by_cases hc : c = 0
    · subst hc
      have e : esc (0 :: r) = 0 :: 255 :: esc r := by simp [esc]
      rw [e, List.cons_append, List.cons_append, scan_mark, ih]
      simp
    · have e : esc (c :: r) = c :: esc r := by simp [esc, hc]
      rw [e, List.cons_append, scan_cons _ hc, ih]
      simp
theorem scan_len : ∀ l : List UInt8, (scan l).1.length ≤ l.length
  | [] => by simp [scan]
  | [c] => by
    by_cases h : c = 0 <;> simp [scan, h]
  | c :: d :: r => by
    have i1 := scan_len r
    have i2 := scan_len (d :: r)
    by_cases h : c = 0
    · by_cases h1 : d = 255
      · simp [scan, h, h1]; omega
      · by_cases h2 : d = 0 <;> simp [scan, h, h1, h2]
    · rw [scan_cons _ h]
      simp at i2 ⊢; omega
theorem scan_le : ∀ l : List UInt8, (scan l).2.1 ≤ l.length
  | [] => by simp [scan]
  | [c] => by
    by_cases h : c = 0 <;> simp [scan, h]
  | c :: d :: r => by
    have i1 := scan_le r
    have i2 := scan_le (d :: r)
    by_cases h : c = 0
    · by_cases h1 : d = 255
      · simp [scan, h, h1]; omega
      · by_cases h2 : d = 0 <;> simp [scan, h, h1, h2]
    · rw [scan_cons _ h]
      simp at i2 ⊢; omega
def unbe (l : List UInt8) : Nat := unle l.reverse
theorem unbe_be (w n : Nat) (h : n < 256 ^ w) : unbe (be w n) = n := by
  unfold unbe be
  rw [List.reverse_reverse]; exact unle_le w n h
def noV : Vl := (0, 0, [])
/-- the value of the key at the beginning, its length, 0 or the error -/
def readK2 (c : Nat) (q : List UInt8 × Nat × Nat) : Vl × Nat × Nat :=
  if q.2.2 = 0 then (if c = 3 ∧ (sg q.1).isSome = false then (noV, 0, 5) else if 120 < q.1.length then (noV, 0, 3) else (((c : Int), 0, q.1), q.2.1 + 1, 0)) else (noV, 0, q.2.2)
def readK : List UInt8 → Vl × Nat × Nat
  | [] => (noV, 0, 4)
  | c :: r => if 4 < c.toNat then (noV, 0, 5) else if c.toNat = 0 then (noV, 1, 0)
    else if c.toNat = 1 then (if r.length < 4 then (noV, 0, 4) else ((1, (unbe (r.take 4) : Int) - 2147483648, []), 5, 0))
    else if c.toNat = 2 then (if r.length < 8 then (noV, 0, 4) else ((2, (unbe (r.take 8) : Int) - 9223372036854775808, []), 9, 0))
    else readK2 c.toNat (scan r)
/-- what is made of a value is read as it is, whatever stands behind it -/
theorem read_key {v : Vl} (h : rightL v = true) (hb : in64 v) (s : List UInt8) : readK (keyL v ++ s) = (v, (keyL v).length, 0) := by
  obtain ⟨k, n, l⟩ := v
  obtain ⟨b1, b2⟩ := hb
  simp only at b1 b2
  have h' : rightV k n l = true := h
  rcases rightV_form h' with ⟨rfl, rfl, rfl⟩ | ⟨rfl, p1, p2, rfl⟩ | ⟨rfl, rfl⟩ | ⟨rfl, rfl, hl, hs⟩ | ⟨rfl, rfl, hl⟩
  · rfl
  · show readK (1 :: be 4 (n + 2147483648).toNat ++ s) = ((1, n, []), (1 :: be 4 (n + 2147483648).toNat).length, 0)
    have hlen := be_length 4 (n + 2147483648).toNat
    rw [List.cons_append]
    simp only [readK]
    rw [if_neg (by decide), if_neg (by decide), if_pos (by decide), if_neg (by simp [hlen]), List.take_append_of_le_length (by omega), List.take_of_length_le (by omega), unbe_be _ _ (by omega), List.length_cons, hlen]
    rw [Int.toNat_of_nonneg (by omega), show n + 2147483648 - 2147483648 = n by omega]
  · show readK (2 :: be 8 (n + 9223372036854775808).toNat ++ s) = ((2, n, []), (2 :: be 8 (n + 9223372036854775808).toNat).length, 0)
    have hlen := be_length 8 (n + 9223372036854775808).toNat
    rw [List.cons_append]
    simp only [readK]
    rw [if_neg (by decide), if_neg (by decide), if_neg (by decide), if_pos (by decide), if_neg (by simp [hlen]), List.take_append_of_le_length (by omega), List.take_of_length_le (by omega), unbe_be _ _ (by omega), List.length_cons, hlen]
    rw [Int.toNat_of_nonneg (by omega), show n + 9223372036854775808 - 9223372036854775808 = n by omega]
  · show readK (3 :: (esc l ++ [0, 0]) ++ s) = ((3, 0, l), (3 :: (esc l ++ [0, 0])).length, 0)
    rw [List.cons_append, List.append_assoc]
    simp only [readK]
    rw [if_neg (by decide), if_neg (by decide), if_neg (by decide), if_neg (by decide)]
    show readK2 3 (scan (esc l ++ (0 :: 0 :: s))) = _
    rw [scan_esc]
    unfold readK2
    rw [if_pos rfl, if_neg (by rw [hs]; simp), if_neg (by simp only; omega)]
    simp
  · show readK (4 :: (esc l ++ [0, 0]) ++ s) = ((4, 0, l), (4 :: (esc l ++ [0, 0])).length, 0)
    rw [List.cons_append, List.append_assoc]
    simp only [readK]
    rw [if_neg (by decide), if_neg (by decide), if_neg (by decide), if_neg (by decide)]
    show readK2 4 (scan (esc l ++ (0 :: 0 :: s))) = _
    rw [scan_esc]
    unfold readK2
    rw [if_pos rfl, if_neg (by simp), if_neg (by simp only; omega)]
    simp

/-- the values of the first p bytes -/
inductive GotK (l : List UInt8) : List Vl → Nat → Prop
  | zero : GotK l [] 0
  | more {vs : List Vl} {p : Nat} {v : Vl} {k : Nat} (h : GotK l vs p) (hp : p < l.length) (hr : readK (l.drop p) = (v, k, 0)) : GotK l (vs ++ [v]) (p + k)
def allFK : Nat → List UInt8 → List Vl → List Vl × Nat
  | 0, _, vs => (vs, 0)
  | f + 1, l, vs => if l = [] then (vs, 0) else if (readK l).2.2 = 0 then allFK f (l.drop (readK l).2.1) (vs ++ [(readK l).1]) else ([], (readK l).2.2)
/-- all values that a text is, 0 or the error -/
def allK (l : List UInt8) : List Vl × Nat := allFK l.length l []
theorem readK_pos {l : List UInt8} {v : Vl} {k : Nat} (h : readK l = (v, k, 0)) : 1 ≤ k := by
  unfold readK at h
  split at h
  · cases h
  · unfold readK2 at h
    repeat' split at h
    all_goals first
      | (cases h; omega)
      | (cases h; done)
      | (injection h with h1 h2; injection h2 with h2 h3; omega)
theorem allFK_more (l : List UInt8) : ∀ {vs : List Vl} {p : Nat}, GotK l vs p → ∀ f, l.length ≤ f + 0 → ∃ g, l.length ≤ p + g ∧ allFK f l [] = allFK g (l.drop p) vs := by
  intro vs p h
  induction h with
  | zero => intro f hf; exact ⟨f, by omega, by rw [List.drop_zero]⟩
  | more h hp hr ih =>
    intro f hf
    obtain ⟨g, hg, he⟩ := ih f hf
    cases g with
    | zero => omega
    | succ g =>
      have hk := readK_pos hr
      refine ⟨g, by omega, ?_⟩
      rw [he, allFK, if_neg (by intro e; rw [List.drop_eq_nil_iff] at e; omega), hr, if_pos rfl, List.drop_drop]
theorem all_done {l : List UInt8} {vs : List Vl} {p : Nat} (h : GotK l vs p) (hp : l.length ≤ p) : allK l = (vs, 0) := by
  obtain ⟨g, _, he⟩ := allFK_more l h l.length (by omega)
  unfold allK
  rw [he, List.drop_eq_nil_of_le hp]
  cases g with
  | zero => rfl
  | succ g => rw [allFK, if_pos rfl]
theorem all_stop {l : List UInt8} {vs : List Vl} {p : Nat} {v : Vl} {k e : Nat} (h : GotK l vs p) (hp : p < l.length) (hr : readK (l.drop p) = (v, k, e)) (he : e ≠ 0) : allK l = ([], e) := by
  obtain ⟨g, hg, ha⟩ := allFK_more l h l.length (by omega)
  unfold allK
  rw [ha]
  cases g with
  | zero => omega
  | succ g => rw [allFK, if_neg (by intro e; rw [List.drop_eq_nil_iff] at e; omega), hr, if_neg he]
theorem got_of (l : List Vl) (h : ∀ v ∈ l, rightL v = true ∧ in64 v) (s : List UInt8) : GotK (ofK l ++ s) l (ofK l).length := by
  suffices H : ∀ (b a : List Vl), a ++ b = l → GotK (ofK l ++ s) a (ofK a).length → GotK (ofK l ++ s) l (ofK l).length from H l [] rfl .zero
  intro b
  induction b with
  | nil =>
    intro a hab hg
    rw [List.append_nil] at hab
    rw [hab] at hg
    exact hg
  | cons v b ih =>
    intro a hab h1
    have hv := h v (by rw [← hab]; simp)
    have hd : (ofK l ++ s).drop (ofK a).length = keyL v ++ (ofK b ++ s) := by
      rw [← hab]
      simp [ofK]
    obtain ⟨r, hr, _⟩ := key_head hv.1
    have hlen : (keyL v).length = r.length + 1 := by rw [show keyL v = _ from hr]; rfl
    have e : (keyL v ++ (ofK b ++ s)).length = (keyL v).length + (ofK b ++ s).length := List.length_append
    have h2 := GotK.more h1 (by
      have := congrArg List.length hd
      rw [List.length_drop, e] at this
      omega) (by rw [hd]; exact read_key hv.1 hv.2 _)
    refine ih (a ++ [v]) (by rw [← hab]; simp) ?_
    rw [ofK_snoc, List.length_append]
    exact h2
/-- what is made of values is read as they are -/
theorem all_of (l : List Vl) (h : ∀ v ∈ l, rightL v = true ∧ in64 v) : allK (ofK l) = (l, 0) := by
  have := got_of l h []
  rw [List.append_nil] at this
  exact all_done this (Nat.le_refl _)
end Go.Proofs.YtlbdbaafmdikcaaGreatDoor

/-
  A parameter of type api.Value, opened and shut.
-/
namespace Go.Proofs.YtlbdbaafmdikcaaGreatDoor
open Go.ChangeShapes Go.WideShapes Go.ChangeAt Go.RowKit Go.Joins

set_option maxRecDepth 100000 in
theorem cellsV : Tryz.prog.cellsOf 25 = 3 := by kernel_rfl
set_option maxRecDepth 100000 in
theorem openV {H : Type} {enc : TypeId × Value → H} {W : World} {base : Nat} {v : Value} {d : DataW H} {p : List MemPlace} {sp : Nat → Bool}
    (hv : Value.okWide Tryz.prog W .any base 25 v) (h : DataW.Trod enc Tryz.prog W 0 sp true 25 v d p) :
    ∃ (k n : Int) (s : ByteArray), v = VV k n s ∧ d = .agg [.lit (.int .i64 k), .lit (.int .i64 n), .lit (.string s.data.toList)] ∧ p = [] ∧ (Lit.int .i64 k).wf = true ∧ (Lit.int .i64 n).wf = true ∧ s.size ≤ maxLen := by
  obtain ⟨v0, v1, v2, y0, y1, y2, m, rfl, rfl, rfl, h0, h1, h2⟩ := open_agg3 Tryz.underlying25 (by kernel_rfl) cellsV hv h
  obtain ⟨k, e0, rfl, w0⟩ := DataW.trod_int Tryz.underlying3 h0
  obtain ⟨n, e1, rfl, w1⟩ := DataW.trod_int Tryz.underlying2 h1
  obtain ⟨s, e2, rfl, w2⟩ := DataW.trod_string Tryz.underlying9 h2
  simp at e0 e1 e2
  subst e0 e1 e2
  exact ⟨k, n, s, rfl, rfl, rfl, w0, w1, w2⟩
set_option maxRecDepth 100000 in
theorem shutV {H : Type} {enc : TypeId × Value → H} (W : World) (sp : Nat → Bool) {k n : Int} {s : ByteArray} (w0 : (Lit.int .i64 k).wf = true) (w1 : (Lit.int .i64 n).wf = true) (w2 : s.size ≤ maxLen) :
    DataW.Trod enc Tryz.prog W 0 sp true 25 (VV k n s) (.agg [.lit (.int .i64 k), .lit (.int .i64 n), .lit (.string s.data.toList)]) [] :=
  shut_agg3 (y0 := (.lit (.int .i64 k), [])) (y1 := (.lit (.int .i64 n), [])) (y2 := (.lit (.string s.data.toList), [])) Tryz.underlying25 (by kernel_rfl) cellsV
    ⟨1, by simp [DataW.trod, Tryz.underlying3, w0]⟩ ⟨1, by simp [DataW.trod, Tryz.underlying2, w1]⟩ ⟨1, by simp [DataW.trod, Tryz.underlying9, w2]⟩
end Go.Proofs.YtlbdbaafmdikcaaGreatDoor

/-
  Rows of values (three cells an element): such as lie somewhere, such as a call makes by itself, and a parameter of type []api.Value.
-/
namespace Go.Proofs.YtlbdbaafmdikcaaGreatDoor
open Go.RowKit

/-- a value with its string as the program has it -/
abbrev Vb := Int × Int × ByteArray
def vl (v : Vb) : Vl := (v.1, v.2.1, bs v.2.2)
def vls (l : List Vb) : List Vl := l.map vl
theorem vl_inj {a b : Vb} (h : vl a = vl b) : a = b := by
  obtain ⟨k, n, s⟩ := a
  obtain ⟨k', n', s'⟩ := b
  simp [vl] at h
  obtain ⟨rfl, rfl, h⟩ := h
  rw [bs_eq h]
theorem vls_inj {a b : List Vb} (h : vls a = vls b) : a = b := by
  induction a generalizing b with
  | nil => cases b with
    | nil => rfl
    | cons y b => simp [vls] at h
  | cons x a ih => cases b with
    | nil => simp [vls] at h
    | cons y b =>
      simp only [vls, List.map_cons, List.cons.injEq] at h
      rw [vl_inj h.1, ih h.2]
theorem vls_length (l : List Vb) : (vls l).length = l.length := List.length_map _
theorem vls_at (l : List Vb) (k : Nat) (h : k < l.length) : (vls l)[k]? = some (vl l[k]) := by simp [vls, h]

set_option maxRecDepth 100000 in
theorem infoV : (Tryz.prog.info? 25).map (fun i => (i.zero, i.size, i.bytes)) = some (some (.agg #[.int .i64 0, .int .i64 0, .string ByteArray.empty]), 3, 32) := by kernel_rfl
/-- values as cells -/
def P3 : List Vb → List Value
  | [] => []
  | t :: r => Value.int .i64 t.1 :: Value.int .i64 t.2.1 :: Value.string t.2.2 :: P3 r
theorem P3_append (a b : List Vb) : P3 (a ++ b) = P3 a ++ P3 b := by
  induction a with
  | nil => rfl
  | cons x r ih => simp [P3, ih]
theorem P3_at (l : List Vb) (i : Nat) (t : Vb) (h : l[i]? = some t) : (P3 l)[i * 3]? = some (.int .i64 t.1) ∧ (P3 l)[i * 3 + 1]? = some (.int .i64 t.2.1) ∧ (P3 l)[i * 3 + 2]? = some (.string t.2.2) := by
  induction l generalizing i with
  | nil => simp at h
  | cons x r ih =>
    cases i with
    | zero => simp at h; subst h; exact ⟨rfl, rfl, rfl⟩
    | succ i =>
      have := ih i (by simpa using h)
      rw [show (i + 1) * 3 = i * 3 + 1 + 1 + 1 by omega, show i * 3 + 1 + 1 + 1 + 1 = i * 3 + 1 + 1 + 1 + 1 by omega]
      rw [show i * 3 + 1 + 1 + 1 + 2 = i * 3 + 2 + 1 + 1 + 1 by omega]
      simpa [P3] using this
theorem P3_one (l : List Vb) : ∀ u ∈ P3 l, u.oneCell' = true := by
  induction l with
  | nil => intro u hu; cases hu
  | cons x r ih =>
    intro u hu
    simp [P3] at hu
    rcases hu with rfl | rfl | rfl | hu
    · rfl
    · rfl
    · rfl
    · exact ih u hu
/-- the slice value v is a row of the call's own, from block base on, and holds the values l -/
def OwnV (w : World) (base : Nat) (v : Value) (l : List Vb) : Prop := w.ownsRow base 25 3 v l.length (P3 l)
theorem OwnV.nil (w : World) (base : Nat) : OwnV w base (.slice none 0 0) [] := World.ownsRow_nil _ _ _ _
theorem OwnV.below {w w' : World} {base : Nat} {v : Value} {l : List Vb} (h : OwnV w base v l) (hb : Below w.heap.size w w') : OwnV w' base v l := owns_below h hb
theorem OwnV.alloc {w : World} {base : Nat} {v : Value} {l : List Vb} (h : OwnV w base v l) (o : Obj) : OwnV (w.alloc o) base v l := World.ownsRow.alloc h o
/-- a slice of values that lies below block B -/
def ValsAt (w : World) (B : Nat) (A : Option Addr) (l : List Vb) : Prop :=
  0 < l.length → ∃ b off, A = some ⟨b, off, none⟩ ∧ b < B ∧ ∀ j t, l[j]? = some t →
    w.cell? ⟨b, off + j * 3, none⟩ = some (.int .i64 t.1) ∧ w.cell? ⟨b, off + j * 3 + 1, none⟩ = some (.int .i64 t.2.1) ∧ w.cell? ⟨b, off + j * 3 + 2, none⟩ = some (.string t.2.2)
theorem ValsAt.of_own {w : World} {base : Nat} {v : Value} {l : List Vb} (h : OwnV w base v l) : ∃ A c, v = .slice A l.length c ∧ ValsAt w w.heap.size A l := by
  rcases h.2 with ⟨rfl, hl⟩ | ⟨g, cap, cur, rfl, hb, hg, _⟩
  · exact ⟨none, 0, by rw [hl], fun hp => absurd hp (by omega)⟩
  · refine ⟨some ⟨g, 0, none⟩, cap, rfl, fun _ => ⟨g, 0, rfl, (Array.getElem?_eq_some_iff.1 hg).1, fun j t hj => ?_⟩⟩
    obtain ⟨q1, q2, q3⟩ := P3_at l j t hj
    have r1 := World.ownsRow.cells h (g := g) rfl _ _ q1
    have r2 := World.ownsRow.cells h (g := g) rfl _ _ q2
    have r3 := World.ownsRow.cells h (g := g) rfl _ _ q3
    rw [Addr.add_lit] at r1 r2 r3
    exact ⟨r1, by rw [Nat.add_assoc]; exact r2, by rw [Nat.add_assoc]; exact r3⟩
theorem ValsAt.below {w w' : World} {B : Nat} {A : Option Addr} {l : List Vb} (h : ValsAt w B A l) (hb : Below B w w') : ValsAt w' B A l := fun hl => by
  obtain ⟨b, off, rfl, h1, h2⟩ := h hl
  exact ⟨b, off, rfl, h1, fun j t hj => ⟨(hb.cell (p := ⟨b, off + j * 3, none⟩) h1).trans (h2 j t hj).1, (hb.cell (p := ⟨b, off + j * 3 + 1, none⟩) h1).trans (h2 j t hj).2.1, (hb.cell (p := ⟨b, off + j * 3 + 2, none⟩) h1).trans (h2 j t hj).2.2⟩⟩
theorem ValsAt.more {w : World} {B B' : Nat} {A : Option Addr} {l : List Vb} (h : ValsAt w B A l) (hB : B ≤ B') : ValsAt w B' A l := fun hl => by
  obtain ⟨b, off, rfl, h1, h2⟩ := h hl
  exact ⟨b, off, rfl, by omega, h2⟩
theorem ValsAt.to {w w' : World} {A : Option Addr} {l : List Vb} (h : ValsAt w w.heap.size A l) (hb : Below w.heap.size w w') : ValsAt w' w'.heap.size A l := (h.below hb).more hb.size
/-- a row of one value, as a call makes it -/
theorem ValsAt.one (w : World) (k n : Int) (s : ByteArray) : ValsAt (w.alloc (.cells #[.int .i64 k, .int .i64 n, .string s] 25)) (w.alloc (.cells #[.int .i64 k, .int .i64 n, .string s] 25)).heap.size (some ⟨w.heap.size, 0, none⟩) [(k, n, s)] := fun _ => by
  refine ⟨w.heap.size, 0, rfl, by simp, fun j t hj => ?_⟩
  match j, hj with
  | 0, hj => simp at hj; subst hj; simp
/-- the cells of one element -/
theorem ValsAt.get {w : World} {B : Nat} {A : Option Addr} {l : List Vb} (h : ValsAt w B A l) (k : Nat) (hk : k < l.length) : ∃ b off, A = some ⟨b, off, none⟩ ∧ b < B ∧
    w.cell? ⟨b, off + k * 3, none⟩ = some (.int .i64 l[k].1) ∧ w.cell? ⟨b, off + k * 3 + 1, none⟩ = some (.int .i64 l[k].2.1) ∧ w.cell? ⟨b, off + k * 3 + 2, none⟩ = some (.string l[k].2.2) := by
  obtain ⟨b, off, rfl, h1, h2⟩ := h (by omega)
  exact ⟨b, off, rfl, h1, h2 k l[k] (by simp [hk])⟩

/-- values come in -/
def ValsIn (w : World) (a : Option Addr) (len : Nat) (l : List Vb) : Prop :=
  l.length = len ∧ len ≤ maxLen ∧ ValsAt w w.heap.size a l ∧ ∀ v ∈ l, (Lit.int .i64 v.1).wf = true ∧ (Lit.int .i64 v.2.1).wf = true ∧ v.2.2.size ≤ maxLen
theorem in64_of {l : List Vb} (h : ∀ v ∈ l, (Lit.int .i64 v.1).wf = true ∧ (Lit.int .i64 v.2.1).wf = true ∧ v.2.2.size ≤ maxLen) : ∀ v ∈ vls l, in64 v := fun v hv => by
  simp only [vls, List.mem_map] at hv
  obtain ⟨x, hx, rfl⟩ := hv
  exact wf64 (h x hx).2.1
end Go.Proofs.YtlbdbaafmdikcaaGreatDoor

/-
  Columns, tables, fields and rows of package schema in plain words: which are right, what is found, what a row's error is.
-/
namespace Go.Proofs.YtlbdbaafmdikcaaGreatDoor
open Go.RowKit

/-- are two strings the same? -/
abbrev eqS (a b : ByteArray) : Bool := a.toList == b.toList
theorem eqS_iff {a b : ByteArray} : eqS a b = true ↔ a = b := by
  constructor
  · intro h
    have h' : a.toList = b.toList := by simpa [eqS] using h
    rw [ByteArray.toList_eq, ByteArray.toList_eq] at h'
    exact bs_eq h'
  · rintro rfl; simp [eqS]
theorem eqS_self (a : ByteArray) : eqS a a = true := eqS_iff.2 rfl
theorem eqS_comm (a b : ByteArray) : eqS a b = eqS b a := by
  apply bool_eq
  rw [eqS_iff, eqS_iff]
  exact ⟨Eq.symm, Eq.symm⟩
/-- a column, a table, a field -/
structure Cb where
  id : Int
  nm : ByteArray
  tk : Int
  tm : Int
  nl : Bool
  dk : Int
  dn : Int
  ds : ByteArray
structure Tb where
  id : Int
  nm : ByteArray
  key : Int
  nx : Int
  A : Option Addr
  cap : Nat
  cols : List Cb
structure Fb where
  nm : ByteArray
  k : Int
  n : Int
  s : ByteArray
abbrev Cb.dv (c : Cb) : Vb := (c.dk, c.dn, c.ds)
abbrev Fb.v (f : Fb) : Vb := (f.k, f.n, f.s)
abbrev CV (c : Cb) : Value := .agg #[.int .i64 c.id, .string c.nm, .int .i64 c.tk, .int .i64 c.tm, .bool c.nl, .int .i64 c.dk, .int .i64 c.dn, .string c.ds]
abbrev TV (t : Tb) : Value := .agg #[.int .i64 t.id, .string t.nm, .int .i64 t.key, .int .i64 t.nx, .slice t.A t.cols.length t.cap]
abbrev FV (f : Fb) : Value := .agg #[.string f.nm, .int .i64 f.k, .int .i64 f.n, .string f.s]
/-- is a value null? -/
def nulV (k n : Int) (s : ByteArray) : Bool := (k == 0) && ((n == 0) && eqS s ByteArray.empty)
def rightC (c : Cb) : Bool := decide (0 ≤ c.id) && (decide (c.id < 200) && (rightN (bs c.nm) && (rightT c.tk c.tm && (nulV c.dk c.dn c.ds || fitT c.tk c.tm c.dk c.dn c.ds))))
/-- what the sizes of a column, a table are -/
def WfC (c : Cb) : Prop := c.nm.size ≤ 1000000 ∧ -9223372036854775808 ≤ c.dn ∧ c.dn < 9223372036854775808
def WfT (t : Tb) : Prop := t.nm.size ≤ 1000000 ∧ t.cols.length ≤ 1000000 ∧ t.cols.length ≤ t.cap ∧ ∀ c ∈ t.cols, WfC c

/-! ### The first one -/
theorem find_at {α : Type} {p : α → Bool} {l : List α} {k : Nat} {y : α} (h : ∀ j x, l[j]? = some x → j < k → p x = false) (hy : l[k]? = some y) (hp : p y = true) : l.findIdx? p = some k := by
  induction l generalizing k with
  | nil => simp at hy
  | cons a r ih =>
    rw [List.findIdx?_cons]
    cases k with
    | zero => simp at hy; subst hy; simp [hp]
    | succ k =>
      have h0 := h 0 a rfl (by omega)
      rw [h0]
      have := ih (k := k) (fun j x hj hk => h (j + 1) x (by simpa using hj) (by omega)) (by simpa using hy)
      simp [this]
theorem find_no {α : Type} {p : α → Bool} {l : List α} (h : ∀ (j : Nat) x, l[j]? = some x → p x = false) : l.findIdx? p = none := by
  rw [List.findIdx?_eq_none_iff]
  intro x hx
  obtain ⟨j, hj⟩ := List.mem_iff_getElem?.1 hx
  exact h j x hj
theorem find_some {α : Type} {p : α → Bool} {l : List α} {k : Nat} (h : l.findIdx? p = some k) : ∃ y, l[k]? = some y ∧ p y = true ∧ ∀ j x, l[j]? = some x → j < k → p x = false := by
  rw [List.findIdx?_eq_some_iff_getElem] at h
  obtain ⟨h1, h2, h3⟩ := h
  refine ⟨l[k], by simp [h1], h2, fun j x hj hk => ?_⟩
  have := h3 j hk
  obtain ⟨hj1, rfl⟩ := List.getElem?_eq_some_iff.1 hj
  simpa using this
theorem find_lt {α : Type} {p : α → Bool} {l : List α} {k : Nat} (h : l.findIdx? p = some k) : k < l.length := by
  obtain ⟨y, h1, _⟩ := find_some h
  exact (List.getElem?_eq_some_iff.1 h1).1
/-- the pair that 'first' returns, the number that the document's own returns -/
def fstV (o : Option Nat) : Value := .tuple #[.int .i64 ((o.getD 0 : Nat) : Int), .bool o.isSome]
def idxI (o : Option Nat) : Int := match o with
  | some k => k
  | none => -1

/-! ### What holds at each place -/
theorem all_at {α : Type} {p : α → Bool} {l : List α} (h : ∀ (j : Nat) x, l[j]? = some x → p x = true) : l.all p = true := by
  rw [List.all_eq_true]
  intro x hx
  obtain ⟨j, hj⟩ := List.mem_iff_getElem?.1 hx
  exact h j x hj
theorem all_find {α : Type} (p : α → Bool) (l : List α) : (l.findIdx? fun x => !p x).isSome = !l.all p := by
  cases h : l.findIdx? fun x => !p x with
  | none =>
    rw [List.findIdx?_eq_none_iff] at h
    have : l.all p = true := List.all_eq_true.2 fun x hx => by simpa using h x hx
    simp [this]
  | some k =>
    obtain ⟨y, h1, h2, _⟩ := find_some h
    cases h3 : l.all p with
    | false => rfl
    | true =>
      rw [List.all_eq_true] at h3
      have := h3 y (List.mem_of_getElem? h1)
      rw [this] at h2; cases h2
/-- number and name of the element at a place are what they should be, against those before it -/
def OkAt {α : Type} (idf : α → Int) (nmf : α → ByteArray) (l : List α) (i : Nat) : Prop :=
  ∀ x, l[i]? = some x → (∀ y, 0 < i → l[i - 1]? = some y → idf y < idf x) ∧ ∀ j y, j < i → l[j]? = some y → nmf y ≠ nmf x
def Dist {α : Type} (idf : α → Int) (nmf : α → ByteArray) (l : List α) : Prop := ∀ i, i < l.length → OkAt idf nmf l i
noncomputable def tf (p : Prop) : Bool := @decide p (Classical.propDecidable p)
theorem tf_iff {p : Prop} : tf p = true ↔ p := by unfold tf; exact @decide_eq_true_iff p (Classical.propDecidable p)
theorem tf_yes {p : Prop} (h : p) : tf p = true := tf_iff.2 h
theorem tf_no {p : Prop} (h : ¬ p) : tf p = false := by
  cases e : tf p with
  | false => rfl
  | true => exact absurd (tf_iff.1 e) h
/-- numbers that increase are different -/
theorem dist_lt {α : Type} {idf : α → Int} {nmf : α → ByteArray} {l : List α} (h : Dist idf nmf l) : ∀ (d i : Nat) (x y : α), l[i]? = some x → l[i + d + 1]? = some y → idf x < idf y
  | 0, i, x, y, hx, hy => (h (i + 1) (List.getElem?_eq_some_iff.1 hy).1 y hy).1 x (by omega) (by simpa using hx)
  | d + 1, i, x, y, hx, hy => by
    have hl := (List.getElem?_eq_some_iff.1 hy).1
    obtain ⟨z, hz⟩ : ∃ z, l[i + d + 1]? = some z := ⟨l[i + d + 1]'(by omega), by simp [show i + d + 1 < l.length by omega]⟩
    have h1 := dist_lt h d i x z hx hz
    have h2 := (h (i + d + 2) (by omega) y (by rw [← hy]; congr 1)).1 z (by omega) (by rw [← hz]; congr 1)
    omega

/-! ### Tables -/
def keyOk (t : Tb) : Prop := ∃ i c, t.cols.findIdx? (fun c => c.id == t.key) = some i ∧ t.cols[i]? = some c ∧ c.nl = false
noncomputable def rightCols (t : Tb) : Bool := (t.cols.all fun c => rightC c && decide (c.id < t.nx)) && tf (Dist Cb.id Cb.nm t.cols)
noncomputable def rightTab (t : Tb) : Bool := decide (0 ≤ t.id) && (rightN (bs t.nm) && (decide (t.nx ≤ 200) && (decide (1 ≤ (t.cols.length : Int)) && (decide ((t.cols.length : Int) ≤ 10) && (rightCols t && tf (keyOk t))))))
/-- the names: the first one of a name is at its own place -/
theorem find_own {l : List Cb} {i : Nat} {c : Cb} (hc : l[i]? = some c) : (l.findIdx? fun x => eqS x.nm c.nm) = some i ↔ ∀ j y, j < i → l[j]? = some y → y.nm ≠ c.nm := by
  constructor
  · intro h j y hj hy e
    obtain ⟨_, _, _, h3⟩ := find_some h
    have := h3 j y hy hj
    rw [eqS_iff.2 e] at this; cases this
  · intro h
    refine find_at (fun j x hj hk => ?_) hc (eqS_self _)
    cases e : eqS x.nm c.nm with
    | false => rfl
    | true => exact absurd (eqS_iff.1 e) (h j x hk hj)
theorem find_ownT {l : List Tb} {i : Nat} {c : Tb} (hc : l[i]? = some c) : (l.findIdx? fun x => eqS x.nm c.nm) = some i ↔ ∀ j y, j < i → l[j]? = some y → y.nm ≠ c.nm := by
  constructor
  · intro h j y hj hy e
    obtain ⟨_, _, _, h3⟩ := find_some h
    have := h3 j y hy hj
    rw [eqS_iff.2 e] at this; cases this
  · intro h
    refine find_at (fun j x hj hk => ?_) hc (eqS_self _)
    cases e : eqS x.nm c.nm with
    | false => rfl
    | true => exact absurd (eqS_iff.1 e) (h j x hk hj)
/-- where all columns are in order the key is that of any column that could be it -/
theorem key_any {t : Tb} (hd : Dist Cb.id Cb.nm t.cols) : tf (keyOk t) = t.cols.any fun c => (c.id == t.key) && !c.nl := by
  apply bool_eq
  rw [tf_iff, List.any_eq_true]
  constructor
  · rintro ⟨i, c, h1, h2, h3⟩
    obtain ⟨y, g1, g2, _⟩ := find_some h1
    rw [h2] at g1; cases g1
    exact ⟨c, List.mem_of_getElem? h2, by simp [g2, h3]⟩
  · rintro ⟨c, hc, h⟩
    obtain ⟨i, hi⟩ := List.mem_iff_getElem?.1 hc
    simp only [Bool.and_eq_true, beq_iff_eq, Bool.not_eq_true'] at h
    refine ⟨i, c, find_at (fun j x hj hk => ?_) hi (by simp [h.1]), hi, h.2⟩
    have := dist_lt hd (i - j - 1) j x c hj (by rw [show j + (i - j - 1) + 1 = i by omega]; exact hi)
    simp; omega
/-- a catalog -/
noncomputable def rightCat (l : List Tb) : Bool := decide ((l.length : Int) ≤ 6) && (l.all rightTab && tf (Dist Tb.id Tb.nm l))

/-! ### Rows -/
def celE (c : Cb) (v : Vb) : Int := if nulV v.1 v.2.1 v.2.2 = true then (if c.nl = true then 0 else 11) else if fitT c.tk c.tm v.1 v.2.1 v.2.2 = true then 0 else 10
def rowE : List Cb → List Vb → Int
  | c :: cs, v :: vs => if celE c v = 0 then rowE cs vs else celE c v
  | _, _ => 0
theorem rowE_stop : ∀ {cs : List Cb} {vs : List Vb} {k : Nat} {c : Cb} {v : Vb}, (∀ j c v, j < k → cs[j]? = some c → vs[j]? = some v → celE c v = 0) → cs[k]? = some c → vs[k]? = some v → celE c v ≠ 0 → rowE cs vs = celE c v
  | [], _, _, _, _, _, hc, _, _ => by simp at hc
  | _ :: _, [], _, _, _, _, _, hv, _ => by simp at hv
  | a :: cs, b :: vs, 0, c, v, _, hc, hv, hn => by
    simp at hc hv; subst hc hv
    rw [rowE, if_neg hn]
  | a :: cs, b :: vs, k + 1, c, v, h, hc, hv, hn => by
    rw [rowE, if_pos (h 0 a b (by omega) rfl rfl)]
    exact rowE_stop (k := k) (fun j c v hj h1 h2 => h (j + 1) c v (by omega) (by simpa using h1) (by simpa using h2)) (by simpa using hc) (by simpa using hv) hn
theorem rowE_done : ∀ {cs : List Cb} {vs : List Vb}, (∀ (j : Nat) c v, cs[j]? = some c → vs[j]? = some v → celE c v = 0) → rowE cs vs = 0
  | [], _, _ => by rw [rowE]; intros; contradiction
  | _ :: _, [], _ => by rw [rowE]; intros; contradiction
  | a :: cs, b :: vs, h => by
    rw [rowE, if_pos (h 0 a b rfl rfl)]
    exact rowE_done (fun j c v h1 h2 => h (j + 1) c v (by simpa using h1) (by simpa using h2))
noncomputable def rowT (t : Tb) (vs : List Vb) : Int := if rightTab t = true then (if vs.length = t.cols.length then rowE t.cols vs else 5) else 2

/-! ### Fields -/
/-- the place of the column of a name -/
def colI (t : Tb) (s : ByteArray) : Option Nat := t.cols.findIdx? fun c => eqS c.nm s
/-- why the field at a place can't stand; 0 -/
noncomputable def fldE (t : Tb) (l : List Fb) (fixed : Int) (i : Nat) (f : Fb) : Int :=
  if (colI t f.nm).isSome = true then (if ((l.take i).findIdx? fun g => eqS g.nm f.nm).isSome = true then 14 else if idxI (colI t f.nm) = fixed then 15 else 0) else 13
/-- the row with the first fields' values -/
def updR (t : Tb) (vs : List Vb) (l : List Fb) : List Vb := l.foldl (fun r f => r.set ((colI t f.nm).getD 0) f.v) vs
theorem updR_length (t : Tb) (vs : List Vb) (l : List Fb) : (updR t vs l).length = vs.length := by
  unfold updR
  induction l generalizing vs with
  | nil => rfl
  | cons f l ih => rw [List.foldl_cons, ih, List.length_set]
theorem updR_snoc (t : Tb) (vs : List Vb) (l : List Fb) (f : Fb) : updR t vs (l ++ [f]) = (updR t vs l).set ((colI t f.nm).getD 0) f.v := by
  unfold updR; rw [List.foldl_append]; rfl
/-- the first field that can't stand -/
noncomputable def fldsE (t : Tb) (l : List Fb) (fixed : Int) : Int := go 0 l
where go (i : Nat) : List Fb → Int
  | [] => 0
  | f :: r => if fldE t l fixed i f = 0 then go (i + 1) r else fldE t l fixed i f
theorem fldsE_go (t : Tb) (l : List Fb) (fixed : Int) : ∀ (r : List Fb) (i k : Nat) (f : Fb), (∀ j g, r[j]? = some g → j < k → fldE t l fixed (i + j) g = 0) → r[k]? = some f → fldE t l fixed (i + k) f ≠ 0 → fldsE.go t l fixed i r = fldE t l fixed (i + k) f
  | [], _, _, _, _, h, _ => by simp at h
  | a :: r, i, 0, f, _, h, hn => by
    simp at h; subst h
    have hn' : fldE t l fixed i a ≠ 0 := hn
    rw [fldsE.go, if_neg hn']; rfl
  | a :: r, i, k + 1, f, h0, h, hn => by
    have h1 : fldE t l fixed i a = 0 := h0 0 a rfl (by omega)
    rw [fldsE.go, if_pos h1]
    have := fldsE_go t l fixed r (i + 1) k f (fun j g hj hk => by rw [show i + 1 + j = i + (j + 1) by omega]; exact h0 (j + 1) g (by simpa using hj) (by omega)) (by simpa using h) (by rw [show i + 1 + k = i + (k + 1) by omega]; exact hn)
    rw [this, show i + 1 + k = i + (k + 1) by omega]
theorem fldsE_go0 (t : Tb) (l : List Fb) (fixed : Int) : ∀ (r : List Fb) (i : Nat), (∀ j g, r[j]? = some g → fldE t l fixed (i + j) g = 0) → fldsE.go t l fixed i r = 0
  | [], _, _ => rfl
  | a :: r, i, h0 => by
    have h1 : fldE t l fixed i a = 0 := h0 0 a rfl
    rw [fldsE.go, if_pos h1]
    exact fldsE_go0 t l fixed r (i + 1) fun j g hj => by rw [show i + 1 + j = i + (j + 1) by omega]; exact h0 (j + 1) g (by simpa using hj)
theorem fldsE_stop {t : Tb} {l : List Fb} {fixed : Int} {k : Nat} {f : Fb} (h : ∀ j g, l[j]? = some g → j < k → fldE t l fixed j g = 0) (hf : l[k]? = some f) (hn : fldE t l fixed k f ≠ 0) : fldsE t l fixed = fldE t l fixed k f := by
  have := fldsE_go t l fixed l 0 k f (fun j g hj hk => by rw [Nat.zero_add]; exact h j g hj hk) hf (by rw [Nat.zero_add]; exact hn)
  rwa [Nat.zero_add] at this
theorem fldsE_done {t : Tb} {l : List Fb} {fixed : Int} (h : ∀ (j : Nat) g, l[j]? = some g → fldE t l fixed j g = 0) : fldsE t l fixed = 0 :=
  fldsE_go0 t l fixed l 0 fun j g hj => by rw [Nat.zero_add]; exact h j g hj
/-- error and row of 'replace': the row with the fields' values, or none -/
noncomputable def replE (t : Tb) (vs : List Vb) (l : List Fb) (fixed : Int) : Int :=
  if 10 < l.length then 3 else if fldsE t l fixed = 0 then rowT t (updR t vs l) else fldsE t l fixed
noncomputable def replR (t : Tb) (vs : List Vb) (l : List Fb) (fixed : Int) : List Vb := if replE t vs l fixed = 0 then updR t vs l else []
end Go.Proofs.YtlbdbaafmdikcaaGreatDoor

/-
  Rows of columns, tables and fields in memory; parameters of type api.Catalog, api.Table and []api.Field; structs compared.
-/
namespace Go.Proofs.YtlbdbaafmdikcaaGreatDoor
open Go.RowKit Go.WideShapes

theorem run_eql_V (w : World) (k n k' n' : Int) (s s' : ByteArray) : (binOp .eql 25 (VV k n s) (VV k' n' s')).run Tryz.prog w = .ok (.bool ((k == k') && ((n == n') && eqS s s'))) w := by
  cases h0 : (k == k') <;> cases h1 : (n == n') <;> cases h2 : (s.toList == s'.toList)
  all_goals simp [go_sem, h0, h1, h2]
theorem run_neq_V (w : World) (k n k' n' : Int) (s s' : ByteArray) : (binOp .neq 25 (VV k n s) (VV k' n' s')).run Tryz.prog w = .ok (.bool (!((k == k') && ((n == n') && eqS s s')))) w := by
  cases h0 : (k == k') <;> cases h1 : (n == n') <;> cases h2 : (s.toList == s'.toList)
  all_goals simp [go_sem, h0, h1, h2]
def eqC (a b : Cb) : Bool := (a.id == b.id) && (eqS a.nm b.nm && ((a.tk == b.tk) && ((a.tm == b.tm) && ((a.nl == b.nl) && ((a.dk == b.dk) && ((a.dn == b.dn) && eqS a.ds b.ds))))))
theorem run_eql_C (w : World) (a b : Cb) : (binOp .eql 59 (CV a) (CV b)).run Tryz.prog w = .ok (.bool (eqC a b)) w := by
  unfold eqC
  cases h0 : (a.id == b.id)
  · simp [go_sem, h0]
  cases h1 : (a.nm.toList == b.nm.toList)
  · simp [go_sem, h0, h1]
  cases h2 : (a.tk == b.tk)
  · simp [go_sem, h0, h1, h2]
  cases h3 : (a.tm == b.tm)
  · simp [go_sem, h0, h1, h2, h3]
  cases h4 : (a.nl == b.nl)
  · simp [go_sem, h0, h1, h2, h3, h4]
  cases h5 : (a.dk == b.dk)
  · simp [go_sem, h0, h1, h2, h3, h4, h5]
  cases h6 : (a.dn == b.dn)
  · simp [go_sem, h0, h1, h2, h3, h4, h5, h6]
  cases h7 : (a.ds.toList == b.ds.toList)
  · simp [go_sem, h0, h1, h2, h3, h4, h5, h6, h7]
  simp [go_sem, h0, h1, h2, h3, h4, h5, h6, h7]
theorem run_neq_C (w : World) (a b : Cb) : (binOp .neq 59 (CV a) (CV b)).run Tryz.prog w = .ok (.bool (!eqC a b)) w := by
  unfold eqC
  cases h0 : (a.id == b.id)
  · simp [go_sem, h0]
  cases h1 : (a.nm.toList == b.nm.toList)
  · simp [go_sem, h0, h1]
  cases h2 : (a.tk == b.tk)
  · simp [go_sem, h0, h1, h2]
  cases h3 : (a.tm == b.tm)
  · simp [go_sem, h0, h1, h2, h3]
  cases h4 : (a.nl == b.nl)
  · simp [go_sem, h0, h1, h2, h3, h4]
  cases h5 : (a.dk == b.dk)
  · simp [go_sem, h0, h1, h2, h3, h4, h5]
  cases h6 : (a.dn == b.dn)
  · simp [go_sem, h0, h1, h2, h3, h4, h5, h6]
  cases h7 : (a.ds.toList == b.ds.toList)
  · simp [go_sem, h0, h1, h2, h3, h4, h5, h6, h7]
  simp [go_sem, h0, h1, h2, h3, h4, h5, h6, h7]
theorem eqC_iff {a b : Cb} : eqC a b = true ↔ a = b := by
  obtain ⟨a1, a2, a3, a4, a5, a6, a7, a8⟩ := a
  obtain ⟨b1, b2, b3, b4, b5, b6, b7, b8⟩ := b
  have e2 : a2.toList = b2.toList ↔ a2 = b2 := by rw [← eqS_iff]; simp [eqS]
  have e8 : a8.toList = b8.toList ↔ a8 = b8 := by rw [← eqS_iff]; simp [eqS]
  simp only [eqC, Bool.and_eq_true, beq_iff_eq, Cb.mk.injEq, e2, e8]

/-! ### Rows of structs -/
def fC (c : Cb) : List Value := [.int .i64 c.id, .string c.nm, .int .i64 c.tk, .int .i64 c.tm, .bool c.nl, .int .i64 c.dk, .int .i64 c.dn, .string c.ds]
def fT (t : Tb) : List Value := [.int .i64 t.id, .string t.nm, .int .i64 t.key, .int .i64 t.nx, .slice t.A t.cols.length t.cap]
def fF (f : Fb) : List Value := [.string f.nm, .int .i64 f.k, .int .i64 f.n, .string f.s]
def fV (v : Vb) : List Value := [.int .i64 v.1, .int .i64 v.2.1, .string v.2.2]
/-- a slice of structs of m cells that lies below block B -/
def RowAt {α : Type} (m : Nat) (f : α → List Value) (w : World) (B : Nat) (A : Option Addr) (l : List α) : Prop :=
  0 < l.length → ∃ b off, A = some ⟨b, off, none⟩ ∧ b < B ∧ ∀ j x, l[j]? = some x → ∀ i v, (f x)[i]? = some v → w.cell? ⟨b, off + j * m + i, none⟩ = some v
theorem RowAt.below {α : Type} {m : Nat} {f : α → List Value} {w w' : World} {B : Nat} {A : Option Addr} {l : List α} (h : RowAt m f w B A l) (hb : Below B w w') : RowAt m f w' B A l := fun hl => by
  obtain ⟨b, off, rfl, h1, h2⟩ := h hl
  exact ⟨b, off, rfl, h1, fun j x hj i v hv => (hb.cell (p := ⟨b, off + j * m + i, none⟩) h1).trans (h2 j x hj i v hv)⟩
theorem RowAt.more {α : Type} {m : Nat} {f : α → List Value} {w : World} {B B' : Nat} {A : Option Addr} {l : List α} (h : RowAt m f w B A l) (hB : B ≤ B') : RowAt m f w B' A l := fun hl => by
  obtain ⟨b, off, rfl, h1, h2⟩ := h hl
  exact ⟨b, off, rfl, by omega, h2⟩
theorem RowAt.to {α : Type} {m : Nat} {f : α → List Value} {w w' : World} {A : Option Addr} {l : List α} (h : RowAt m f w w.heap.size A l) (hb : Below w.heap.size w w') : RowAt m f w' w'.heap.size A l := (h.below hb).more hb.size
/-- a shorter slice of the same -/
theorem RowAt.take {α : Type} {m : Nat} {f : α → List Value} {w : World} {B : Nat} {A : Option Addr} {l : List α} (h : RowAt m f w B A l) (n : Nat) : RowAt m f w B A (l.take n) := fun hl => by
  obtain ⟨b, off, rfl, h1, h2⟩ := h (by rw [List.length_take] at hl; omega)
  exact ⟨b, off, rfl, h1, fun j x hj i v hv => h2 j x (by rw [List.getElem?_take] at hj; split at hj; exact hj; cases hj) i v hv⟩
def ColsAt (w : World) (B : Nat) (A : Option Addr) (l : List Cb) : Prop := RowAt 8 fC w B A l
def FldsAt (w : World) (B : Nat) (A : Option Addr) (l : List Fb) : Prop := RowAt 4 fF w B A l
/-- what of a table lies elsewhere -/
def TabAt (w : World) (B : Nat) (t : Tb) : Prop := ColsAt w B t.A t.cols
def TabsAt (w : World) (B : Nat) (A : Option Addr) (l : List Tb) : Prop := RowAt 5 fT w B A l ∧ ∀ t ∈ l, TabAt w B t
theorem TabsAt.below {w w' : World} {B : Nat} {A : Option Addr} {l : List Tb} (h : TabsAt w B A l) (hb : Below B w w') : TabsAt w' B A l := ⟨h.1.below hb, fun t ht => RowAt.below (h.2 t ht) hb⟩
theorem TabsAt.more {w : World} {B B' : Nat} {A : Option Addr} {l : List Tb} (h : TabsAt w B A l) (hB : B ≤ B') : TabsAt w B' A l := ⟨h.1.more hB, fun t ht => RowAt.more (h.2 t ht) hB⟩
theorem TabsAt.to {w w' : World} {A : Option Addr} {l : List Tb} (h : TabsAt w w.heap.size A l) (hb : Below w.heap.size w w') : TabsAt w' w'.heap.size A l := (h.below hb).more hb.size
theorem TabsAt.take {w : World} {B : Nat} {A : Option Addr} {l : List Tb} (h : TabsAt w B A l) (n : Nat) : TabsAt w B A (l.take n) := ⟨h.1.take n, fun t ht => h.2 t (List.mem_of_mem_take ht)⟩
theorem ColsAt.get {w : World} {B : Nat} {A : Option Addr} {l : List Cb} (h : ColsAt w B A l) (k : Nat) (c : Cb) (hk : l[k]? = some c) : ∃ b off, A = some ⟨b, off, none⟩ ∧ b < B ∧
    w.cell? ⟨b, off + k * 8, none⟩ = some (.int .i64 c.id) ∧ w.cell? ⟨b, off + k * 8 + 1, none⟩ = some (.string c.nm) ∧ w.cell? ⟨b, off + k * 8 + 2, none⟩ = some (.int .i64 c.tk) ∧ w.cell? ⟨b, off + k * 8 + 3, none⟩ = some (.int .i64 c.tm) ∧
    w.cell? ⟨b, off + k * 8 + 4, none⟩ = some (.bool c.nl) ∧ w.cell? ⟨b, off + k * 8 + 5, none⟩ = some (.int .i64 c.dk) ∧ w.cell? ⟨b, off + k * 8 + 6, none⟩ = some (.int .i64 c.dn) ∧ w.cell? ⟨b, off + k * 8 + 7, none⟩ = some (.string c.ds) := by
  obtain ⟨b, off, rfl, h1, h2⟩ := h (by have := (List.getElem?_eq_some_iff.1 hk).1; omega)
  have := h2 k c hk
  exact ⟨b, off, rfl, h1, this 0 _ rfl, this 1 _ rfl, this 2 _ rfl, this 3 _ rfl, this 4 _ rfl, this 5 _ rfl, this 6 _ rfl, this 7 _ rfl⟩
theorem TabsAt.get {w : World} {B : Nat} {A : Option Addr} {l : List Tb} (h : TabsAt w B A l) (k : Nat) (t : Tb) (hk : l[k]? = some t) : ∃ b off, A = some ⟨b, off, none⟩ ∧ b < B ∧
    w.cell? ⟨b, off + k * 5, none⟩ = some (.int .i64 t.id) ∧ w.cell? ⟨b, off + k * 5 + 1, none⟩ = some (.string t.nm) ∧ w.cell? ⟨b, off + k * 5 + 2, none⟩ = some (.int .i64 t.key) ∧ w.cell? ⟨b, off + k * 5 + 3, none⟩ = some (.int .i64 t.nx) ∧
    w.cell? ⟨b, off + k * 5 + 4, none⟩ = some (.slice t.A t.cols.length t.cap) := by
  obtain ⟨b, off, rfl, h1, h2⟩ := h.1 (by have := (List.getElem?_eq_some_iff.1 hk).1; omega)
  have := h2 k t hk
  exact ⟨b, off, rfl, h1, this 0 _ rfl, this 1 _ rfl, this 2 _ rfl, this 3 _ rfl, this 4 _ rfl⟩
theorem FldsAt.get {w : World} {B : Nat} {A : Option Addr} {l : List Fb} (h : FldsAt w B A l) (k : Nat) (f : Fb) (hk : l[k]? = some f) : ∃ b off, A = some ⟨b, off, none⟩ ∧ b < B ∧
    w.cell? ⟨b, off + k * 4, none⟩ = some (.string f.nm) ∧ w.cell? ⟨b, off + k * 4 + 1, none⟩ = some (.int .i64 f.k) ∧ w.cell? ⟨b, off + k * 4 + 2, none⟩ = some (.int .i64 f.n) ∧ w.cell? ⟨b, off + k * 4 + 3, none⟩ = some (.string f.s) := by
  obtain ⟨b, off, rfl, h1, h2⟩ := h (by have := (List.getElem?_eq_some_iff.1 hk).1; omega)
  have := h2 k f hk
  exact ⟨b, off, rfl, h1, this 0 _ rfl, this 1 _ rfl, this 2 _ rfl, this 3 _ rfl⟩

/-! ### A struct in its box -/
def BlkN (w : World) (b : Nat) (vs : List Value) : Prop := ∀ i v, vs[i]? = some v → w.cell? ⟨b, i, none⟩ = some v
theorem BlkN.new (w : World) (b : Nat) (vs : List Value) (t : TypeId) (h : b = w.heap.size) : BlkN (w.alloc (.cells vs.toArray t)) b vs := fun i v hv => by
  subst h
  simp [hv]
theorem BlkN.below {w w1 : World} {b B : Nat} {vs : List Value} (h : BlkN w b vs) (hb : Below B w w1) (hB : b < B) : BlkN w1 b vs := fun i v hv => (hb.cell (p := ⟨b, i, none⟩) hB).trans (h i v hv)
theorem BlkN.alloc {w : World} {b : Nat} {vs : List Value} (h : BlkN w b vs) (hb : b < w.heap.size) (o : Obj) : BlkN (w.alloc o) b vs := h.below ((Below.refl w.heap.size w).alloc (Nat.le_refl _) o) hb
/-- a table in its box -/
theorem BlkN.tab {w : World} {b : Nat} {t : Tb} (h : BlkN w b (fT t)) : w.cell? ⟨b, 0, none⟩ = some (.int .i64 t.id) ∧ w.cell? ⟨b, 1, none⟩ = some (.string t.nm) ∧ w.cell? ⟨b, 2, none⟩ = some (.int .i64 t.key) ∧ w.cell? ⟨b, 3, none⟩ = some (.int .i64 t.nx) ∧ w.cell? ⟨b, 4, none⟩ = some (.slice t.A t.cols.length t.cap) :=
  ⟨h 0 _ rfl, h 1 _ rfl, h 2 _ rfl, h 3 _ rfl, h 4 _ rfl⟩
theorem BlkN.col {w : World} {b : Nat} {c : Cb} (h : BlkN w b (fC c)) : w.cell? ⟨b, 0, none⟩ = some (.int .i64 c.id) ∧ w.cell? ⟨b, 1, none⟩ = some (.string c.nm) ∧ w.cell? ⟨b, 2, none⟩ = some (.int .i64 c.tk) ∧ w.cell? ⟨b, 3, none⟩ = some (.int .i64 c.tm) ∧
    w.cell? ⟨b, 4, none⟩ = some (.bool c.nl) ∧ w.cell? ⟨b, 5, none⟩ = some (.int .i64 c.dk) ∧ w.cell? ⟨b, 6, none⟩ = some (.int .i64 c.dn) ∧ w.cell? ⟨b, 7, none⟩ = some (.string c.ds) :=
  ⟨h 0 _ rfl, h 1 _ rfl, h 2 _ rfl, h 3 _ rfl, h 4 _ rfl, h 5 _ rfl, h 6 _ rfl, h 7 _ rfl⟩
theorem BlkN.fld {w : World} {b : Nat} {f : Fb} (h : BlkN w b (fF f)) : w.cell? ⟨b, 0, none⟩ = some (.string f.nm) ∧ w.cell? ⟨b, 1, none⟩ = some (.int .i64 f.k) ∧ w.cell? ⟨b, 2, none⟩ = some (.int .i64 f.n) ∧ w.cell? ⟨b, 3, none⟩ = some (.string f.s) :=
  ⟨h 0 _ rfl, h 1 _ rfl, h 2 _ rfl, h 3 _ rfl⟩
theorem BlkN.one {w : World} {b : Nat} {v : Value} (h : BlkN w b [v]) : w.cell? ⟨b, 0, none⟩ = some v := h 0 _ rfl

end Go.Proofs.YtlbdbaafmdikcaaGreatDoor

/-
  Rows of values of the call's own: a whole row appended, a value stored in its place.
-/
namespace Go.Proofs.YtlbdbaafmdikcaaGreatDoor
open Go.RowKit

theorem P3_length (l : List Vb) : (P3 l).length = l.length * 3 := by
  induction l with
  | nil => rfl
  | cons x r ih => simp [P3, ih]; omega
theorem P3_all : ∀ {vs : List Vb} {Q : Nat → Value → Prop}, (∀ i t, vs[i]? = some t → Q (i * 3) (.int .i64 t.1) ∧ Q (i * 3 + 1) (.int .i64 t.2.1) ∧ Q (i * 3 + 2) (.string t.2.2)) → ∀ j u, (P3 vs)[j]? = some u → Q j u
  | [], _, _, j, u, hj => by simp [P3] at hj
  | x :: r, Q, h, 0, u, hj => by simp [P3] at hj; subst hj; exact (h 0 x rfl).1
  | x :: r, Q, h, 1, u, hj => by simp [P3] at hj; subst hj; exact (h 0 x rfl).2.1
  | x :: r, Q, h, 2, u, hj => by simp [P3] at hj; subst hj; exact (h 0 x rfl).2.2
  | x :: r, Q, h, j + 3, u, hj => by
    refine P3_all (vs := r) (Q := fun j u => Q (j + 3) u) (fun i t hi => ?_) j u (by simpa [P3] using hj)
    have := h (i + 1) t (by simpa using hi)
    rw [show (i + 1) * 3 = i * 3 + 3 by omega, show i * 3 + 3 + 1 = i * 3 + 1 + 3 by omega, show i * 3 + 3 + 2 = i * 3 + 2 + 3 by omega] at this
    exact this
theorem P3_set : ∀ (l : List Vb) (k : Nat) (t : Vb), P3 (l.set k t) = (((P3 l).set (k * 3) (.int .i64 t.1)).set (k * 3 + 1) (.int .i64 t.2.1)).set (k * 3 + 2) (.string t.2.2)
  | [], k, t => by simp [P3]
  | x :: r, 0, t => by simp [P3]
  | x :: r, k + 1, t => by
    rw [show (k + 1) * 3 = k * 3 + 1 + 1 + 1 by omega, show k * 3 + 1 + 1 + 1 + 1 = k * 3 + 1 + 1 + 1 + 1 by omega, show k * 3 + 1 + 1 + 1 + 2 = k * 3 + 2 + 1 + 1 + 1 by omega]
    simp [P3, P3_set r k t]
/-- a value stored in its place -/
theorem OwnV.set3 {w : World} {base g cap : Nat} {l : List Vb} (h : OwnV w base (.slice (some ⟨g, 0, none⟩) l.length cap) l) (k : Nat) (t : Vb) :
    OwnV (((w.setCell ⟨g, k * 3, none⟩ (.int .i64 t.1)).setCell ⟨g, k * 3 + 1, none⟩ (.int .i64 t.2.1)).setCell ⟨g, k * 3 + 2, none⟩ (.string t.2.2)) base (.slice (some ⟨g, 0, none⟩) l.length cap) (l.set k t) := by
  unfold OwnV
  rw [List.length_set, P3_set]
  exact (World.ownsRow.stored (World.ownsRow.stored (World.ownsRow.stored h (k * 3) _).1 (k * 3 + 1) _).1 (k * 3 + 2) _).1
/-- the shape of a row of the call's own that is not empty -/
theorem OwnV.shape {w : World} {base : Nat} {v : Value} {l : List Vb} (h : OwnV w base v l) (hl : 0 < l.length) : ∃ g cap, v = .slice (some ⟨g, 0, none⟩) l.length cap ∧ base ≤ g ∧ g < w.heap.size ∧ l.length ≤ cap := by
  rcases h.2 with ⟨_, h0⟩ | ⟨g, cap, cur, rfl, hb, hg, hc, _⟩
  · omega
  · exact ⟨g, cap, rfl, hb, (Array.getElem?_eq_some_iff.1 hg).1, hc⟩
theorem OwnV.lit0 (w : World) (base : Nat) (hb : base ≤ w.heap.size) : OwnV (w.alloc (.cells #[] 25)) base (.slice (some ⟨w.heap.size, 0, none⟩) 0 0) [] :=
  World.ownsRow_lit w #[] 0 hb (by unfold maxLen; omega) rfl
end Go.Proofs.YtlbdbaafmdikcaaGreatDoor

/-
  The mathematics of keys (layer 7): the most significant bit turned; bytes put and read, the most significant one first.
-/
namespace Go.Proofs.YtlbdbaafmdikcaaGreatDoor
open Go.RowKit

theorem xor_hi (k r : Nat) (h : r < 2 ^ k) : r ^^^ 2 ^ k = r + 2 ^ k := by
  apply Nat.eq_of_testBit_eq
  intro i
  have e := Nat.testBit_two_pow_mul_add 1 h i
  rw [Nat.mul_one] at e
  rw [Nat.testBit_xor, Nat.add_comm r, e, Nat.testBit_two_pow]
  by_cases hi : i < k
  · simp [hi, show ¬ k = i by omega]
  · rw [if_neg hi, Nat.testBit_lt_two_pow (Nat.lt_of_lt_of_le h (Nat.pow_le_pow_right (by omega) (show k ≤ i by omega)))]
    by_cases hk : k = i
    · subst hk; simp
    · have : (1 : Nat).testBit (i - k) = false := Nat.testBit_lt_two_pow (Nat.one_lt_two_pow (by omega))
      simp [hk, this]
/-- the bit above k bits turned -/
theorem xor_top (k r : Nat) (h : r < 2 ^ (k + 1)) : r ^^^ 2 ^ k = (r + 2 ^ k) % 2 ^ (k + 1) := by
  rw [Nat.pow_succ] at h ⊢
  by_cases h1 : r < 2 ^ k
  · rw [xor_hi k r h1]
    generalize 2 ^ k = P at *
    rw [Nat.mod_eq_of_lt (by omega)]
  · obtain ⟨q, rfl⟩ : ∃ q, r = q + 2 ^ k := ⟨r - 2 ^ k, by omega⟩
    have hq : q < 2 ^ k := by omega
    have e := xor_hi k q hq
    rw [← e, Nat.xor_assoc, Nat.xor_self, Nat.xor_zero, e]
    generalize 2 ^ k = P at *
    rw [show q + P + P = q + P * 2 by omega, Nat.add_mod_right, Nat.mod_eq_of_lt (by omega)]
theorem be_mod (w n : Nat) : be w n = be w (n % 256 ^ w) := by
  induction w generalizing n with
  | zero => rfl
  | succ w ih =>
    rw [be_succ, be_succ]
    have e : n % 256 ^ (w + 1) / 256 ^ w % 256 = n / 256 ^ w % 256 := by
      rw [Nat.pow_succ, Nat.mod_mul_right_div_self, Nat.mod_mod]
    have e2 : be w (n % 256 ^ (w + 1)) = be w n := by
      rw [ih (n % 256 ^ (w + 1)), Nat.mod_mod_of_dvd _ ⟨256, by rw [Nat.pow_succ]⟩, ← ih n]
    rw [e, e2]
theorem be_at (w n : Nat) : ∀ j, j < w → (be w n)[j]? = some (UInt8.ofNat (n / 256 ^ (w - 1 - j) % 256)) := by
  induction w with
  | zero => intro j hj; omega
  | succ w ih =>
    intro j hj
    rw [be_succ]
    cases j with
    | zero => simp
    | succ j => rw [List.getElem?_cons_succ, ih j (by omega), show w + 1 - 1 - (j + 1) = w - 1 - j by omega]
theorem be_take (w n k : Nat) (hk : k < w) : (be w n).take (w - k) = (be w n).take (w - (k + 1)) ++ [UInt8.ofNat (n / 256 ^ k % 256)] := by
  have h := be_at w n (w - (k + 1)) (by omega)
  rw [show w - 1 - (w - (k + 1)) = k by omega] at h
  obtain ⟨h1, h2⟩ := List.getElem?_eq_some_iff.1 h
  rw [show w - k = w - (k + 1) + 1 by omega, List.take_succ_eq_append_getElem h1, h2]

/-- the number that is written for one of 32 bits -/
theorem put4 (n : Int) (h1 : -2147483648 ≤ n) (h2 : n < 2147483648) : ∃ W : Nat, bits .xor .u64 (IntKind.u64.wrap n) 2147483648 = (W : Int) ∧ W < 18446744073709551616 ∧ be 4 W = be 4 (n + 2147483648).toNat := by
  rw [IntKind.wrap_u64]
  obtain ⟨x, hx⟩ := Int.eq_ofNat_of_zero_le (a := n % 18446744073709551616) (by omega)
  rw [hx]
  refine ⟨x ^^^ 2147483648, bits_xor_u64_nat x 2147483648 (by omega) (by omega), Nat.xor_lt_two_pow (n := 64) (by omega) (by omega), ?_⟩
  rw [be_mod 4 (x ^^^ 2147483648)]
  have e : (x ^^^ 2147483648) % 256 ^ 4 = (n + 2147483648).toNat := by
    show (x ^^^ 2147483648) % 2 ^ 32 = _
    rw [Nat.xor_mod_two_pow]
    show x % 2 ^ 32 ^^^ 2 ^ 31 = _
    rw [xor_top 31 _ (Nat.mod_lt _ (by omega))]
    simp only [Nat.reducePow, Nat.reduceAdd]
    omega
  rw [e]
/-- the number that is written for one of 64 bits -/
theorem put8 (n : Int) (h1 : -9223372036854775808 ≤ n) (h2 : n < 9223372036854775808) : ∃ W : Nat, bits .xor .u64 (IntKind.u64.wrap n) 9223372036854775808 = (W : Int) ∧ W < 18446744073709551616 ∧ be 8 W = be 8 (n + 9223372036854775808).toNat := by
  rw [IntKind.wrap_u64]
  obtain ⟨x, hx⟩ := Int.eq_ofNat_of_zero_le (a := n % 18446744073709551616) (by omega)
  rw [hx]
  refine ⟨x ^^^ 9223372036854775808, bits_xor_u64_nat x 9223372036854775808 (by omega) (by omega), Nat.xor_lt_two_pow (n := 64) (by omega) (by omega), ?_⟩
  have e : x ^^^ 9223372036854775808 = (n + 9223372036854775808).toNat := by
    show x ^^^ 2 ^ 63 = _
    rw [xor_top 63 _ (by simp only [Nat.reducePow, Nat.reduceAdd]; omega)]
    simp only [Nat.reducePow, Nat.reduceAdd]
    omega
  rw [e]

theorem unbe_snoc (l : List UInt8) (c : UInt8) : unbe (l ++ [c]) = unbe l * 256 + c.toNat := by
  unfold unbe
  rw [List.reverse_append]
  show unle (c :: l.reverse) = _
  rw [unle]; omega
theorem unbe_take {l : List UInt8} {k : Nat} {c : UInt8} (h : l[k]? = some c) : unbe (l.take (k + 1)) = unbe (l.take k) * 256 + c.toNat := by
  obtain ⟨h1, rfl⟩ := List.getElem?_eq_some_iff.1 h
  rw [List.take_succ_eq_append_getElem h1, unbe_snoc]
theorem unbe_lt (l : List UInt8) : unbe l < 256 ^ l.length := by
  have := unle_lt l.reverse
  rw [List.length_reverse] at this; exact this
/-- one byte more, the most significant one first, as the program puts it -/
theorem or_low (x c : Nat) (hc : c < 256) (hx : x < 72057594037927936) : bits BinOp.or IntKind.u64 (IntKind.u64.wrap ((x : Int) * 256)) (c : Int) = ((x * 256 + c : Nat) : Int) := by
  rw [IntKind.wrap_u64, show ((x : Int) * 256) % 18446744073709551616 = ((x * 256 : Nat) : Int) by omega, u64_or_nat _ _ (by omega) (by omega), nat_join 8 _ _ (by omega) (by simpa using hc)]
theorem get4 (x : Nat) (h : x < 4294967296) : IntKind.i32.wrap ((x ^^^ 2147483648 : Nat) : Int) = (x : Int) - 2147483648 := by
  have e := xor_top 31 x h
  simp only [Nat.reducePow, Nat.reduceAdd] at e
  rw [e]
  simp [IntKind.wrap, IntKind.bits, IntKind.signed]; omega
theorem get8 (x : Nat) (h : x < 18446744073709551616) : IntKind.i64.wrap ((x ^^^ 9223372036854775808 : Nat) : Int) = (x : Int) - 9223372036854775808 := by
  have e := xor_top 63 x h
  simp only [Nat.reducePow, Nat.reduceAdd] at e
  rw [e, wrap_i64_eq]
  omega
end Go.Proofs.YtlbdbaafmdikcaaGreatDoor

/-
  Contracts of package sortkey: topBit, appendNumber, appendString, appendKey.
-/
namespace Go.Proofs.YtlbdbaafmdikcaaGreatDoor
open Go.RowKit

theorem esc_append : ∀ (a b : List UInt8), esc (a ++ b) = esc a ++ esc b
  | [], b => rfl
  | c :: r, b => by
    have ih := esc_append r b
    by_cases h : c = 0 <;> simp [esc, h, ih]
theorem esc_len : ∀ l : List UInt8, (esc l).length ≤ 2 * l.length
  | [] => by simp [esc]
  | c :: r => by
    have ih := esc_len r
    by_cases h : c = 0 <;> simp [esc, h] <;> omega
theorem esc_at0 {l : List UInt8} {k : Nat} {c : UInt8} (h : l[k]? = some c) (hc : c = 0) : esc (l.take (k + 1)) = esc (l.take k) ++ [c] ++ [255] := by
  obtain ⟨h1, rfl⟩ := List.getElem?_eq_some_iff.1 h
  rw [List.take_succ_eq_append_getElem h1, esc_append, hc]; simp [esc]
theorem esc_at1 {l : List UInt8} {k : Nat} {c : UInt8} (h : l[k]? = some c) (hc : c ≠ 0) : esc (l.take (k + 1)) = esc (l.take k) ++ [c] := by
  obtain ⟨h1, rfl⟩ := List.getElem?_eq_some_iff.1 h
  rw [List.take_succ_eq_append_getElem h1, esc_append]; simp [esc, hc]
/-- two bytes appended -/
theorem wpList_append_byte2 {w : World} {ops : Array Oper} {rest : List Oper} {o : Oper} {a : Act} {Q : Exit → Act → World → Prop} (hgd : o.guard = none) (s x : Operand)
    (ho : o.op = .call { callee := .builtin .append, args := #[s, x], argTypes := #[156, 156] })
    (base : Nat) (v : Value) (l : List UInt8) (c d : UInt8) (z y : Int)
    (hown : OwnB w base v l) (hs : a.eval s = v) (hx : a.eval x = .slice (some ⟨w.heap.size, 0, none⟩) 2 2) (hz : z = (c.toNat : Int)) (hy : y = (d.toNat : Int)) (hlen : l.length < 1099511627000) (hbase : base ≤ w.heap.size)
    (h : ∀ v' w', OwnB w' base v' (l ++ [c, d]) → Below base w w' → wpList Tryz.prog ops Q rest (a.put o.dst v') w') :
    wpList Tryz.prog ops Q (o :: rest) a (w.alloc (.cells #[.int .u8 z, .int .u8 y] 5)) := by
  subst hz hy
  obtain ⟨i0, hi, hz0, hz1, hz2⟩ := info_parts info8
  refine wpList_append_own _ hgd s x 156 ho base 5 i0 (.int .u8 0) 1 1 Tryz.underlying156 hi hz0 hz1 hz2 rfl (by decide) v l.length (B8 l) hs (World.ownsRow.alloc hown _)
    ⟨w.heap.size, 0, none⟩ 2 2 [.int .u8 (c.toNat : Int), .int .u8 (d.toNat : Int)] hx rfl (fun j u hj => ?_) (fun u hu => ?_) (by unfold maxLen; omega) (by omega) (by simp; omega) ?_
  · match j, hj with
    | 0, hj => simp at hj; subst hj; simp [Addr.add]
    | 1, hj => simp at hj; subst hj; simp [Addr.add]
    | j + 2, hj => simp at hj
  · simp at hu; rcases hu with rfl | rfl <;> rfl
  · intro v' w' h1 h2 _
    refine h v' w' ?_ (((Below.refl base w).alloc hbase _).grown h2 (by simp; omega) (fun k hk => ?_))
    · unfold OwnB
      rw [B8_append, List.length_append]
      exact h1
    · exact ((World.ownsRow.lt hown) k hk).1
theorem u8_zero {c : UInt8} (h : c.toNat = 0) : c = 0 := UInt8.toNat_inj.1 h
theorem u8_nonzero {c : UInt8} (h : ¬ c.toNat = 0) : c ≠ 0 := fun e => h (by rw [e]; rfl)

/-- one byte appended, while a block of three cells lies aside -/
theorem wpList_append_byte_keep {w : World} {ops : Array Oper} {rest : List Oper} {o : Oper} {a : Act} {Q : Exit → Act → World → Prop} (hgd : o.guard = none) (s x : Operand)
    (ho : o.op = .call { callee := .builtin .append, args := #[s, x], argTypes := #[156, 156] })
    (base : Nat) (v : Value) (l : List UInt8) (c : UInt8) (z : Int) (b g : Nat) (x0 x1 x2 : Value)
    (hown : OwnB w base v l) (hs : a.eval s = v) (hx : a.eval x = .slice (some ⟨g, 0, none⟩) 1 1) (hg : g = w.heap.size) (hz : z = (c.toNat : Int)) (hlen : l.length < 1099511627776) (hbase : base ≤ w.heap.size)
    (hk : Blk3 w b x0 x1 x2) (hlt : b < w.heap.size) (hne : some b ≠ v.ownBlock)
    (h : ∀ v' w', OwnB w' base v' (l ++ [c]) → Below base w w' → Blk3 w' b x0 x1 x2 → b < w'.heap.size → wpList Tryz.prog ops Q rest (a.put o.dst v') w') :
    wpList Tryz.prog ops Q (o :: rest) a (w.alloc (.cells #[.int .u8 z] 5)) := by
  subst hz hg
  obtain ⟨i0, hi, hz0, hz1, hz2⟩ := info_parts info8
  refine wpList_append_own _ hgd s x 156 ho base 5 i0 (.int .u8 0) 1 1 Tryz.underlying156 hi hz0 hz1 hz2 rfl (by decide) v l.length (B8 l) hs (World.ownsRow.alloc hown _)
    ⟨w.heap.size, 0, none⟩ 1 1 [.int .u8 (c.toNat : Int)] hx rfl (fun j u hj => ?_) (fun u hu => ?_) (by unfold maxLen; omega) (by omega) (by simp; omega) ?_
  · match j, hj with
    | 0, hj => simp at hj; subst hj; simp [Addr.add]
  · simp at hu; subst hu; rfl
  · intro v' w' h1 h2 _
    have hsz := h2.size
    simp at hsz
    have q : ∀ i, w'.cell? ⟨b, i, none⟩ = w.cell? ⟨b, i, none⟩ ∧ w'.frozen? ⟨b, i, none⟩ = w.frozen? ⟨b, i, none⟩ := fun i => by
      have h3 := (Below.refl w.heap.size w).alloc (Nat.le_refl _) (.cells #[.int .u8 (c.toNat : Int)] 5)
      have e := h2.block b (by simp; omega) hne
      exact ⟨(World.cell?_of_block (w := w.alloc (.cells #[.int .u8 (c.toNat : Int)] 5)) e).trans (h3.cell (p := ⟨b, i, none⟩) hlt), (World.frozen?_of_block (w := w.alloc (.cells #[.int .u8 (c.toNat : Int)] 5)) e).trans (h3.frozen (p := ⟨b, i, none⟩) hlt)⟩
    obtain ⟨c0, c1, c2, f0, f1, f2⟩ := hk
    refine h v' w' ?_ (((Below.refl base w).alloc hbase _).grown h2 (by simp; omega) (fun k hk => ?_)) ⟨(q 0).1.trans c0, (q 1).1.trans c1, (q 2).1.trans c2, (q 0).2.trans f0, (q 1).2.trans f1, (q 2).2.trans f2⟩ (by omega)
    · unfold OwnB
      rw [B8_append, List.length_append]
      exact h1
    · exact ((World.ownsRow.lt hown) k hk).1
/-- the key of a value lies behind the row -/
def PutKey (w : World) (B : Nat) (l : List UInt8) (e : Ending) (w' : World) : Prop := ∃ v', e = .returned v' ∧ OwnB w' B v' l ∧ Below B w w'
theorem own_far {w : World} {B : Nat} {v : Value} {l : List UInt8} (h : OwnB w B v l) : some w.heap.size ≠ v.ownBlock := fun e => by
  have := (World.ownsRow.lt h _ e.symm).2
  omega
theorem kind_byte {k : Int} (c : UInt8) (h : (c.toNat : Int) = k) (h2 : 0 ≤ k ∧ k < 256) : k % 256 = (c.toNat : Int) := by omega

end Go.Proofs.YtlbdbaafmdikcaaGreatDoor

/-
  Contract of package sortkey's Of.
-/
namespace Go.Proofs.YtlbdbaafmdikcaaGreatDoor
open Go.RowKit

theorem bthen {w a b : World} (h : Below w.heap.size w a) (h2 : Below a.heap.size a b) : Below w.heap.size w b := h.trans (h2.mono h.size)
theorem new_lt' {w w1 : World} {o : Obj} (hb : Below (w.alloc o).heap.size (w.alloc o) w1) : w.heap.size < w1.heap.size := by have := hb.size; simp at this; omega
/-- are all of them right? -/
def allR (l : List Vl) : Bool := l.all rightL
theorem allR_take {l : List Vl} (h : allR l = true) (k : Nat) : allR (l.take k) = true := by
  unfold allR at *
  rw [List.all_eq_true] at *
  exact fun x hx => h x (List.mem_of_mem_take hx)
theorem allR_not {l : List Vl} {k : Nat} {v : Vl} (hk : l[k]? = some v) (hv : rightL v = false) : allR l = false := by
  cases h : allR l with
  | false => rfl
  | true =>
    unfold allR at h
    rw [List.all_eq_true] at h
    have := h v (List.mem_of_getElem? hk)
    rw [hv] at this; cases this
theorem allR_of {l : List Vl} (h : ∀ (k : Nat) v, l[k]? = some v → rightL v = true) : allR l = true := by
  unfold allR
  rw [List.all_eq_true]
  intro x hx
  obtain ⟨k, hk⟩ := List.mem_iff_getElem?.1 hx
  exact h k x hk
/-- what Of returns -/
def ofV (l : List Vl) : Value := if allR l then .tuple #[.string ⟨(ofK l).toArray⟩, .int .i64 0] else .tuple #[.string ⟨#[]⟩, .int .i64 2]
theorem key_len {k n : Int} {l : List UInt8} (h : rightV k n l = true) : (key k n l).length ≤ 243 := by
  rcases rightV_form h with ⟨rfl, rfl, rfl⟩ | ⟨rfl, p1, p2, rfl⟩ | ⟨rfl, rfl⟩ | ⟨rfl, rfl, hl, hs⟩ | ⟨rfl, rfl, hl⟩
  · simp [key_0]
  · rw [key_1, List.length_cons, be_length]; omega
  · rw [key_2, List.length_cons, be_length]; omega
  · have := esc_len l
    rw [key_3, List.length_cons, List.length_append]; simp; omega
  · have := esc_len l
    rw [key_4, List.length_cons, List.length_append]; simp; omega
theorem ofK_len : ∀ {l : List Vl}, allR l = true → (ofK l).length ≤ 243 * l.length
  | [], _ => by simp [ofK]
  | v :: l, h => by
    have h' : rightL v = true ∧ allR l = true := by simpa [allR] using h
    have ih := ofK_len h'.2
    have := key_len (k := v.1) (n := v.2.1) (l := v.2.2) h'.1
    rw [ofK_cons, List.length_append, List.length_cons]
    unfold keyL; omega
theorem ofK_take {l : List Vl} {k : Nat} {v : Vl} (h : l[k]? = some v) : ofK (l.take (k + 1)) = ofK (l.take k) ++ keyL v := by
  obtain ⟨h1, rfl⟩ := List.getElem?_eq_some_iff.1 h
  rw [List.take_succ_eq_append_getElem h1, ofK_snoc]

end Go.Proofs.YtlbdbaafmdikcaaGreatDoor

/-
  Contracts of package schema's generic 'first', at tables, columns and fields, for whatever function it is handed.
-/
namespace Go.Proofs.YtlbdbaafmdikcaaGreatDoor
open Go.RowKit

set_option maxRecDepth 100000 in
set_option maxHeartbeats 800000 in
theorem firstT_any (A : Option Addr) (cp : Nat) (l : List Tb) (F : Nat) (caps : Array Value) (p : Tb → Bool) (w : World) (hA : TabsAt w w.heap.size A l) (hl : l.length ≤ 1000000)
    (hF : ∀ args w, (callFunc F args).run Tryz.prog w = .ok (.enter F args) w)
    (hcall : ∀ x ∈ l, ∀ w', Below w.heap.size w w' → Calls Tryz.prog F (#[TV x] ++ caps) w' fun e w2 => e = .returned (.bool (p x)) ∧ Below w'.heap.size w' w2) :
    Calls Tryz.prog 63 #[.slice A l.length cp, .func (.func F) #[] caps] w fun e w' => e = .returned (fstV (l.findIdx? p)) ∧ Below w.heap.size w w' := by
  have HA := Lib.hid hA; clear hA
  have HC := Lib.hid hcall; clear hcall
  go_enter Tryz.func63, Tryz.ntmps63
  go_wp2_with fail
  go_loopw [10] (fun i wr => ∃ k : Nat, k ≤ l.length ∧ i = .int .i64 k ∧ Hid (∀ j x, l[j]? = some x → j < k → p x = false) ∧ Below w.heap.size w wr) (fun i _ => l.length - (intOf i).toNat)
  case atStart => exact ⟨0, by omega, rfl, fun j v _ h => absurd h (by omega), Below.refl _ _⟩
  case round =>
    obtain ⟨k, hk, rfl, hall, hb⟩ := hrel
    have hsz2 := hb.size
    by_cases hlt : k < l.length
    · obtain ⟨x, hx⟩ : ∃ x, l[k]? = some x := ⟨l[k], by simp [hlt]⟩
      have Hx := Lib.hid hx
      obtain ⟨b, off, rfl, hbB, c0, c1, c2, c3, c4⟩ := (HA.out.below hb).get k x hx
      have Hcl := Lib.hid (HC.out x (List.mem_of_getElem? hx))
      have hbn := hb.trans (((Below.refl wr.heap.size wr).alloc (Nat.le_refl _) (.cells (fT x).toArray 45)).mono hsz2)
      have Hbn := Lib.hid hbn; clear hbn hx
      cases hp : p x
      · rw [hp] at Hcl
        have Hall : Hid (∀ j x, l[j]? = some x → j < k + 1 → p x = false) := fun j y hj hk => by
          by_cases e : j = k
          · subst e
            rw [Hx.out] at hj
            cases hj
            exact hp
          · exact hall.out j y hj (by omega)
        clear hp
        go_wp2_with fail
        refine (Hcl.out _ Hbn.out).mono ?_
        rintro e w1 ⟨rfl, hb1⟩
        have Hb1 := Lib.hid (bthen Hbn.out hb1); clear hb1
        go_wp2_with fail
        go_roundw
        case rel => exact ⟨k + 1, by omega, by go_num, Hall.out, Hb1.out⟩
        case measure => simp [intOf]; omega
      · rw [hp] at Hcl
        have Hfi : Hid (l.findIdx? p = some k) := find_at hall.out Hx.out hp
        clear hp
        go_wp2_with fail
        refine (Hcl.out _ Hbn.out).mono ?_
        rintro e w1 ⟨rfl, hb1⟩
        have Hb1 := Lib.hid (bthen Hbn.out hb1); clear hb1
        go_wp2_with fail
        go_ret2
        exact ⟨by rw [Hfi.out]; rfl, Hb1.out⟩
    · have Hfi : Hid (l.findIdx? p = none) := find_no fun j x hj => hall.out j x hj (by have := (List.getElem?_eq_some_iff.1 hj).1; omega)
      go_wp2_with fail
      go_ret2
      exact ⟨by rw [Hfi.out]; rfl, hb⟩

set_option maxRecDepth 100000 in
set_option maxHeartbeats 800000 in
theorem firstC_any (A : Option Addr) (cp : Nat) (l : List Cb) (F : Nat) (caps : Array Value) (p : Cb → Bool) (w : World) (hA : ColsAt w w.heap.size A l) (hl : l.length ≤ 1000000)
    (hF : ∀ args w, (callFunc F args).run Tryz.prog w = .ok (.enter F args) w)
    (hcall : ∀ x ∈ l, ∀ w', Below w.heap.size w w' → Calls Tryz.prog F (#[CV x] ++ caps) w' fun e w2 => e = .returned (.bool (p x)) ∧ Below w'.heap.size w' w2) :
    Calls Tryz.prog 109 #[.slice A l.length cp, .func (.func F) #[] caps] w fun e w' => e = .returned (fstV (l.findIdx? p)) ∧ Below w.heap.size w w' := by
  have HA := Lib.hid hA; clear hA
  have HC := Lib.hid hcall; clear hcall
  go_enter Tryz.func109, Tryz.ntmps109
  go_wp2_with fail
  go_loopw [10] (fun i wr => ∃ k : Nat, k ≤ l.length ∧ i = .int .i64 k ∧ Hid (∀ j x, l[j]? = some x → j < k → p x = false) ∧ Below w.heap.size w wr) (fun i _ => l.length - (intOf i).toNat)
  case atStart => exact ⟨0, by omega, rfl, fun j v _ h => absurd h (by omega), Below.refl _ _⟩
  case round =>
    obtain ⟨k, hk, rfl, hall, hb⟩ := hrel
    have hsz2 := hb.size
    by_cases hlt : k < l.length
    · obtain ⟨x, hx⟩ : ∃ x, l[k]? = some x := ⟨l[k], by simp [hlt]⟩
      have Hx := Lib.hid hx
      obtain ⟨b, off, rfl, hbB, c0, c1, c2, c3, c4, c5, c6, c7⟩ := (ColsAt.get (RowAt.below HA.out hb) k x hx)
      have Hcl := Lib.hid (HC.out x (List.mem_of_getElem? hx))
      have hbn := hb.trans (((Below.refl wr.heap.size wr).alloc (Nat.le_refl _) (.cells (fC x).toArray 59)).mono hsz2)
      have Hbn := Lib.hid hbn; clear hbn hx
      cases hp : p x
      · rw [hp] at Hcl
        have Hall : Hid (∀ j x, l[j]? = some x → j < k + 1 → p x = false) := fun j y hj hk => by
          by_cases e : j = k
          · subst e
            rw [Hx.out] at hj
            cases hj
            exact hp
          · exact hall.out j y hj (by omega)
        clear hp
        go_wp2_with fail
        refine (Hcl.out _ Hbn.out).mono ?_
        rintro e w1 ⟨rfl, hb1⟩
        have Hb1 := Lib.hid (bthen Hbn.out hb1); clear hb1
        go_wp2_with fail
        go_roundw
        case rel => exact ⟨k + 1, by omega, by go_num, Hall.out, Hb1.out⟩
        case measure => simp [intOf]; omega
      · rw [hp] at Hcl
        have Hfi : Hid (l.findIdx? p = some k) := find_at hall.out Hx.out hp
        clear hp
        go_wp2_with fail
        refine (Hcl.out _ Hbn.out).mono ?_
        rintro e w1 ⟨rfl, hb1⟩
        have Hb1 := Lib.hid (bthen Hbn.out hb1); clear hb1
        go_wp2_with fail
        go_ret2
        exact ⟨by rw [Hfi.out]; rfl, Hb1.out⟩
    · have Hfi : Hid (l.findIdx? p = none) := find_no fun j x hj => hall.out j x hj (by have := (List.getElem?_eq_some_iff.1 hj).1; omega)
      go_wp2_with fail
      go_ret2
      exact ⟨by rw [Hfi.out]; rfl, hb⟩

end Go.Proofs.YtlbdbaafmdikcaaGreatDoor

/-
  Contracts of package schema's Find, ById, Col, Key, hasField and of their function literals.
-/
namespace Go.Proofs.YtlbdbaafmdikcaaGreatDoor
open Go.RowKit

theorem keep_alloc {w : World} {a : Addr} {v : Value} (h : w.cell? a = some v) (o : Obj) : (w.alloc o).cell? a = some v :=
  (((Below.refl w.heap.size w).alloc (Nat.le_refl _) o).cell (World.block_lt_of_cell? w a h)).trans h
theorem below_two (w : World) (o o2 : Obj) : Below w.heap.size w ((w.alloc o).alloc o2) := ((Below.refl _ _).alloc (Nat.le_refl _) o).alloc (by simp) o2
theorem below_one (w : World) (o : Obj) : Below w.heap.size w (w.alloc o) := (Below.refl _ _).alloc (Nat.le_refl _) o

theorem find1_any (x : Tb) (b : Nat) (s : ByteArray) (w : World) (hc : w.cell? ⟨b, 0, none⟩ = some (.string s)) :
    Calls Tryz.prog 74 #[TV x, .pointer (some ⟨b, 0, none⟩)] w fun e w' => e = .returned (.bool (eqS x.nm s)) ∧ Below w.heap.size w w' := by
  have hk := keep_alloc hc
  go_enter Tryz.func74, Tryz.ntmps74
  go_wp2_with fail
  go_ret
  exact ⟨rfl, by go_grown⟩
theorem byId1_any (x : Tb) (b : Nat) (s : Int) (w : World) (hc : w.cell? ⟨b, 0, none⟩ = some (.int .i64 s)) :
    Calls Tryz.prog 128 #[TV x, .pointer (some ⟨b, 0, none⟩)] w fun e w' => e = .returned (.bool (x.id == s)) ∧ Below w.heap.size w w' := by
  have hk := keep_alloc hc
  go_enter Tryz.func128, Tryz.ntmps128
  go_wp2_with fail
  go_ret
  exact ⟨rfl, by go_grown⟩
theorem col1_any (x : Cb) (b : Nat) (s : ByteArray) (w : World) (hc : w.cell? ⟨b, 0, none⟩ = some (.string s)) :
    Calls Tryz.prog 110 #[CV x, .pointer (some ⟨b, 0, none⟩)] w fun e w' => e = .returned (.bool (eqS x.nm s)) ∧ Below w.heap.size w w' := by
  have hk := keep_alloc hc
  go_enter Tryz.func110, Tryz.ntmps110
  go_wp2_with fail
  go_ret
  exact ⟨rfl, by go_grown⟩
theorem key1_any (x : Cb) (b : Nat) (s : Int) (w : World) (hc : w.cell? ⟨b, 2, none⟩ = some (.int .i64 s)) :
    Calls Tryz.prog 127 #[CV x, .pointer (some ⟨b, 0, none⟩)] w fun e w' => e = .returned (.bool (x.id == s)) ∧ Below w.heap.size w w' := by
  have hk := keep_alloc hc
  go_enter Tryz.func127, Tryz.ntmps127
  go_wp2_with fail
  go_ret
  exact ⟨rfl, by go_grown⟩
theorem entersFind : ∀ args w, (callFunc 74 args).run Tryz.prog w = .ok (.enter 74 args) w := Go.Proofs.enters_of Tryz.func74 (by kernel_rfl) rfl
theorem entersById : ∀ args w, (callFunc 128 args).run Tryz.prog w = .ok (.enter 128 args) w := Go.Proofs.enters_of Tryz.func128 (by kernel_rfl) rfl
theorem entersCol : ∀ args w, (callFunc 110 args).run Tryz.prog w = .ok (.enter 110 args) w := Go.Proofs.enters_of Tryz.func110 (by kernel_rfl) rfl
theorem entersKey : ∀ args w, (callFunc 127 args).run Tryz.prog w = .ok (.enter 127 args) w := Go.Proofs.enters_of Tryz.func127 (by kernel_rfl) rfl
theorem fstV_eq (o : Option Nat) : ∃ (i : Int) (b : Bool), fstV o = .tuple #[.int .i64 i, .bool b] := ⟨_, _, rfl⟩

set_option maxRecDepth 100000 in
theorem sfind_any (A : Option Addr) (cp : Nat) (l : List Tb) (s : ByteArray) (w : World) (hA : TabsAt w w.heap.size A l) (hl : l.length ≤ 1000000) :
    Calls Tryz.prog 52 #[.agg #[.slice A l.length cp], .string s] w fun e w' => e = .returned (fstV (l.findIdx? fun x => eqS x.nm s)) ∧ Below w.heap.size w w' := by
  have HA := Lib.hid hA; clear hA
  have hmf : ∀ (fn : Fn) (first cap : Array Value) (w : World), (Instr.makeFunc fn first cap).run Tryz.prog w = .ok (.func fn first cap) w := fun _ _ _ _ => rfl
  have hb2 := Lib.hid (below_two w (.cells #[.slice A l.length cp] 37) (.cells #[.string s] 9))
  have hc2 : Hid (((w.alloc (.cells #[.slice A l.length cp] 37)).alloc (.cells #[.string s] 9)).cell? ⟨w.heap.size + 1, 0, none⟩ = some (.string s)) := by show _ = _; simp
  go_enter Tryz.func52, Tryz.ntmps52
  go_wp2_with fail
  refine (firstT_any A cp l 74 #[.pointer (some ⟨w.heap.size + 1, 0, none⟩)] (fun x => eqS x.nm s) _ (HA.out.to hb2.out) hl entersFind (fun x _ w' hb' => find1_any x _ s w' ((hb'.cell (by simp)).trans hc2.out))).mono ?_
  rintro e w1 ⟨rfl, hb1⟩
  have Hb1 := Lib.hid (bthen hb2.out hb1); clear hb1
  obtain ⟨i, b, hfi⟩ := fstV_eq (l.findIdx? fun x => eqS x.nm s)
  have Hfi := Lib.hid hfi
  rw [hfi]; clear hfi
  go_wp2_with fail
  go_ret2
  exact ⟨by rw [Hfi.out]; rfl, Hb1.out⟩
set_option maxRecDepth 100000 in
theorem sbyId_any (A : Option Addr) (cp : Nat) (l : List Tb) (s : Int) (w : World) (hA : TabsAt w w.heap.size A l) (hl : l.length ≤ 1000000) :
    Calls Tryz.prog 103 #[.agg #[.slice A l.length cp], .int .i64 s] w fun e w' => e = .returned (fstV (l.findIdx? fun x => x.id == s)) ∧ Below w.heap.size w w' := by
  have HA := Lib.hid hA; clear hA
  have hmf : ∀ (fn : Fn) (first cap : Array Value) (w : World), (Instr.makeFunc fn first cap).run Tryz.prog w = .ok (.func fn first cap) w := fun _ _ _ _ => rfl
  have hb2 := Lib.hid (below_two w (.cells #[.slice A l.length cp] 37) (.cells #[.int .i64 s] 3))
  have hc2 : Hid (((w.alloc (.cells #[.slice A l.length cp] 37)).alloc (.cells #[.int .i64 s] 3)).cell? ⟨w.heap.size + 1, 0, none⟩ = some (.int .i64 s)) := by show _ = _; simp
  go_enter Tryz.func103, Tryz.ntmps103
  go_wp2_with fail
  refine (firstT_any A cp l 128 #[.pointer (some ⟨w.heap.size + 1, 0, none⟩)] (fun x => x.id == s) _ (HA.out.to hb2.out) hl entersById (fun x _ w' hb' => byId1_any x _ s w' ((hb'.cell (by simp)).trans hc2.out))).mono ?_
  rintro e w1 ⟨rfl, hb1⟩
  have Hb1 := Lib.hid (bthen hb2.out hb1); clear hb1
  obtain ⟨i, b, hfi⟩ := fstV_eq (l.findIdx? fun x => x.id == s)
  have Hfi := Lib.hid hfi
  rw [hfi]; clear hfi
  go_wp2_with fail
  go_ret2
  exact ⟨by rw [Hfi.out]; rfl, Hb1.out⟩
set_option maxRecDepth 100000 in
theorem scol_any (t : Tb) (s : ByteArray) (w : World) (hA : TabAt w w.heap.size t) (hl : t.cols.length ≤ 1000000) :
    Calls Tryz.prog 77 #[TV t, .string s] w fun e w' => e = .returned (fstV (colI t s)) ∧ Below w.heap.size w w' := by
  have HA := Lib.hid hA; clear hA
  have hmf : ∀ (fn : Fn) (first cap : Array Value) (w : World), (Instr.makeFunc fn first cap).run Tryz.prog w = .ok (.func fn first cap) w := fun _ _ _ _ => rfl
  have hb2 := Lib.hid (below_two w (.cells (fT t).toArray 45) (.cells #[.string s] 9))
  have hc2 : Hid (((w.alloc (.cells (fT t).toArray 45)).alloc (.cells #[.string s] 9)).cell? ⟨w.heap.size + 1, 0, none⟩ = some (.string s)) := by show _ = _; simp
  go_enter Tryz.func77, Tryz.ntmps77
  go_wp2_with fail
  refine (firstC_any t.A t.cap t.cols 110 #[.pointer (some ⟨w.heap.size + 1, 0, none⟩)] (fun x => eqS x.nm s) _ (RowAt.to HA.out hb2.out) hl entersCol (fun x _ w' hb' => col1_any x _ s w' ((hb'.cell (by simp)).trans hc2.out))).mono ?_
  rintro e w1 ⟨rfl, hb1⟩
  have Hb1 := Lib.hid (bthen hb2.out hb1); clear hb1
  obtain ⟨i, b, hfi⟩ := fstV_eq (t.cols.findIdx? fun x => eqS x.nm s)
  have Hfi := Lib.hid hfi
  rw [hfi]; clear hfi
  go_wp2_with fail
  go_ret2
  exact ⟨by unfold colI; rw [Hfi.out]; rfl, Hb1.out⟩
set_option maxRecDepth 100000 in
theorem skey_any (t : Tb) (w : World) (hA : TabAt w w.heap.size t) (hl : t.cols.length ≤ 1000000) :
    Calls Tryz.prog 102 #[TV t] w fun e w' => e = .returned (fstV (t.cols.findIdx? fun c => c.id == t.key)) ∧ Below w.heap.size w w' := by
  have HA := Lib.hid hA; clear hA
  have hmf : ∀ (fn : Fn) (first cap : Array Value) (w : World), (Instr.makeFunc fn first cap).run Tryz.prog w = .ok (.func fn first cap) w := fun _ _ _ _ => rfl
  have hb2 := Lib.hid (below_one w (.cells (fT t).toArray 45))
  have hc2 : Hid ((w.alloc (.cells (fT t).toArray 45)).cell? ⟨w.heap.size, 2, none⟩ = some (.int .i64 t.key)) := (BlkN.new w _ (fT t) _ rfl).tab.2.2.1
  go_enter Tryz.func102, Tryz.ntmps102
  go_wp2_with fail
  refine (firstC_any t.A t.cap t.cols 127 #[.pointer (some ⟨w.heap.size, 0, none⟩)] (fun x => x.id == t.key) _ (RowAt.to HA.out hb2.out) hl entersKey (fun x _ w' hb' => key1_any x _ t.key w' ((hb'.cell (by simp)).trans hc2.out))).mono ?_
  rintro e w1 ⟨rfl, hb1⟩
  have Hb1 := Lib.hid (bthen hb2.out hb1); clear hb1
  obtain ⟨i, b, hfi⟩ := fstV_eq (t.cols.findIdx? fun x => x.id == t.key)
  have Hfi := Lib.hid hfi
  rw [hfi]; clear hfi
  go_wp2_with fail
  go_ret2
  exact ⟨by rw [Hfi.out]; rfl, Hb1.out⟩
end Go.Proofs.YtlbdbaafmdikcaaGreatDoor

/-
  Parameters of type api.Catalog, api.Table and []api.Field, opened.
-/
namespace Go.Proofs.YtlbdbaafmdikcaaGreatDoor
open Go.RowKit Go.WideShapes

/-! ### Opening -/
theorem row_open {α : Type} [Inhabited α] {H : Type} {enc : TypeId × Value → H} {W : World} {sp : Nat → Bool} {m : Nat} {f : α → List Value} {Q : α → Prop} {ts e : TypeId} (hts : Tryz.prog.underlying ts = some (.slice e)) (hm : Tryz.prog.cellsOf e = m)
    (hone : ∀ fuel cs x, DataW.trod enc Tryz.prog W 0 sp true fuel e cs = some x → ∃ a, cs = f a ∧ Q a) (hf0 : ∀ a, ∃ v, (f a)[0]? = some v)
    {fuel : Nat} {v : Value} {x : DataW H × List MemPlace} (h : DataW.trod enc Tryz.prog W 0 sp true fuel ts [v] = some x) : ∃ a len cap, v = .slice a len cap ∧ ∃ l : List α, l.length = len ∧ len ≤ maxLen ∧ len ≤ cap ∧ RowAt m f W W.heap.size a l ∧ ∀ x ∈ l, Q x := by
  rcases Go.Deep.open_slice hts h with ⟨hcs, _⟩ | ⟨x, len, cap, m', n, D, Pl, hcs, hb, hl, hmx, hmm, _, hx⟩
  · obtain rfl : v = .slice none 0 0 := by simpa using hcs
    exact ⟨none, 0, 0, rfl, [], rfl, Nat.zero_le _, Nat.zero_le _, fun hp => absurd hp (by simp), by simp⟩
  · obtain rfl : v = .slice (some x) len cap := by simpa using hcs
    rw [hm] at hx
    have hlm : len ≤ m' := by rw [hmm]; split <;> omega
    have one : ∀ i, i < len → ∃ a : α, (∀ j v, (f a)[j]? = some v → W.cell? ((x.add (i * m)).add j) = some v) ∧ Q a := fun i hi => by
      obtain ⟨cs, h1, h2⟩ := hx i (by omega)
      obtain ⟨_, hlen, hc⟩ := World.cells?_some h1
      obtain ⟨a, rfl, hq⟩ := hone _ _ _ h2
      refine ⟨a, fun j v hv => ?_, hq⟩
      rw [hc j (by have := (List.getElem?_eq_some_iff.1 hv).1; omega)]
      exact hv
    obtain ⟨g, hg⟩ := Go.Deep.choose_lt one
    refine ⟨some x, len, cap, rfl, (List.range len).map g, by simp, by omega, hl, fun hp => ?_, fun y hy => ?_⟩
    · simp at hp
      obtain ⟨v0, hv0⟩ := hf0 (g 0)
      have e0 := (hg 0 hp).1 0 v0 hv0
      obtain ⟨b, off, spt⟩ := x
      obtain rfl : spt = none := by simpa [Addr.add] using World.cell?_spot e0
      have hlt := World.block_lt_of_cell? W _ e0
      rw [Addr.add_lit, Addr.add_lit] at hlt
      refine ⟨b, off, rfl, hlt, fun j t hj i v hv => ?_⟩
      have hjl : j < len := by
        have := (List.getElem?_eq_some_iff.1 hj).1
        simpa using this
      have ht : g j = t := by simpa [hjl] using hj
      subst ht
      have := (hg j hjl).1 i v hv
      simp only [Addr.add_lit] at this
      exact this
    · simp at hy
      obtain ⟨i, hi, rfl⟩ := hy
      exact (hg i hi).2
instance : Inhabited Cb := ⟨⟨0, ByteArray.empty, 0, 0, false, 0, 0, ByteArray.empty⟩⟩
instance : Inhabited Tb := ⟨⟨0, ByteArray.empty, 0, 0, none, 0, []⟩⟩
instance : Inhabited Fb := ⟨⟨ByteArray.empty, 0, 0, ByteArray.empty⟩⟩
/-- what is known of a column that comes in, of a table, of a field, of a value -/
def InC (c : Cb) : Prop := (Lit.int .i64 c.id).wf = true ∧ c.nm.size ≤ maxLen ∧ (Lit.int .i64 c.tk).wf = true ∧ (Lit.int .i64 c.tm).wf = true ∧ (Lit.int .i64 c.dk).wf = true ∧ (Lit.int .i64 c.dn).wf = true ∧ c.ds.size ≤ maxLen
def InT (w : World) (t : Tb) : Prop := (Lit.int .i64 t.id).wf = true ∧ t.nm.size ≤ maxLen ∧ (Lit.int .i64 t.key).wf = true ∧ (Lit.int .i64 t.nx).wf = true ∧ t.cols.length ≤ maxLen ∧ t.cols.length ≤ t.cap ∧ TabAt w w.heap.size t ∧ ∀ c ∈ t.cols, InC c
def InF (f : Fb) : Prop := f.nm.size ≤ maxLen ∧ (Lit.int .i64 f.k).wf = true ∧ (Lit.int .i64 f.n).wf = true ∧ f.s.size ≤ maxLen
set_option maxRecDepth 100000 in
theorem q_int : Tryz.prog.cellsOf 3 = 1 := by kernel_rfl
set_option maxRecDepth 100000 in
theorem q_int64 : Tryz.prog.cellsOf 2 = 1 := by kernel_rfl
set_option maxRecDepth 100000 in
theorem q_string : Tryz.prog.cellsOf 9 = 1 := by kernel_rfl
set_option maxRecDepth 100000 in
theorem q_bool : Tryz.prog.cellsOf 4 = 1 := by kernel_rfl
set_option maxRecDepth 100000 in
theorem q_type : Tryz.prog.cellsOf 23 = 2 := by kernel_rfl
set_option maxRecDepth 100000 in
theorem q_col : Tryz.prog.cellsOf 59 = 8 := by kernel_rfl
set_option maxRecDepth 100000 in
theorem q_cols : Tryz.prog.cellsOf 26 = 1 := by kernel_rfl
set_option maxRecDepth 100000 in
theorem q_tab : Tryz.prog.cellsOf 45 = 5 := by kernel_rfl
set_option maxRecDepth 100000 in
theorem q_tabs : Tryz.prog.cellsOf 35 = 1 := by kernel_rfl
set_option maxRecDepth 100000 in
theorem q_cat : Tryz.prog.cellsOf 37 = 1 := by kernel_rfl
set_option maxRecDepth 100000 in
theorem val_of {H : Type} {enc : TypeId × Value → H} {W : World} {sp : Nat → Bool} {fuel : Nat} {c0 c1 c2 : Value} {y : DataW H × List MemPlace}
    (h : DataW.trod enc Tryz.prog W 0 sp true fuel 25 [c0, c1, c2] = some y) : ∃ (k n : Int) (s : ByteArray), c0 = .int .i64 k ∧ c1 = .int .i64 n ∧ c2 = .string s ∧ (Lit.int .i64 k).wf = true ∧ (Lit.int .i64 n).wf = true ∧ s.size ≤ maxLen := by
  obtain ⟨y0, y1, y2, n', _, _, t0, t1, t2⟩ := Go.Deep.trod_struct3 Tryz.underlying25 h
  simp [q_int, q_int64, q_string] at t0 t1 t2
  obtain ⟨k, r0, _, w0⟩ := DataW.trod_int Tryz.underlying3 t0
  obtain ⟨n, r1, _, w1⟩ := DataW.trod_int Tryz.underlying2 t1
  obtain ⟨s, r2, _, w2⟩ := DataW.trod_string Tryz.underlying9 t2
  simp at r0 r1 r2
  exact ⟨k, n, s, r0, r1, r2, w0, w1, w2⟩
set_option maxRecDepth 100000 in
theorem typ_of {H : Type} {enc : TypeId × Value → H} {W : World} {sp : Nat → Bool} {fuel : Nat} {c0 c1 : Value} {y : DataW H × List MemPlace}
    (h : DataW.trod enc Tryz.prog W 0 sp true fuel 23 [c0, c1] = some y) : ∃ k m : Int, c0 = .int .i64 k ∧ c1 = .int .i64 m ∧ (Lit.int .i64 k).wf = true ∧ (Lit.int .i64 m).wf = true := by
  obtain ⟨xs, n', _, _, _, hlen, hf⟩ := DataW.trod_struct Tryz.underlying23 h
  match xs, hlen with
  | [y0, y1], _ =>
    have t0 := hf 0 _ rfl
    have t1 := hf 1 _ rfl
    simp [q_int] at t0 t1
    obtain ⟨k, r0, _, w0⟩ := DataW.trod_int Tryz.underlying3 t0
    obtain ⟨m, r1, _, w1⟩ := DataW.trod_int Tryz.underlying3 t1
    simp at r0 r1
    exact ⟨k, m, r0, r1, w0, w1⟩
set_option maxRecDepth 100000 in
theorem col_of {H : Type} {enc : TypeId × Value → H} {W : World} {sp : Nat → Bool} (fuel : Nat) (cs : List Value) (y : DataW H × List MemPlace)
    (h : DataW.trod enc Tryz.prog W 0 sp true fuel 59 cs = some y) : ∃ c : Cb, cs = fC c ∧ InC c := by
  obtain ⟨xs, n', _, _, hl, hlen, hf⟩ := DataW.trod_struct Tryz.underlying59 h
  rw [q_col] at hl
  match xs, hlen with
  | [y0, y1, y2, y3, y4], _ =>
    match cs, hl with
    | [c0, c1, c2, c3, c4, c5, c6, c7], _ =>
      have t0 := hf 0 _ rfl
      have t1 := hf 1 _ rfl
      have t2 := hf 2 _ rfl
      have t3 := hf 3 _ rfl
      have t4 := hf 4 _ rfl
      simp [q_int, q_string, q_bool, q_type, cellsV] at t0 t1 t2 t3 t4
      obtain ⟨i, r0, _, w0⟩ := DataW.trod_int Tryz.underlying3 t0
      obtain ⟨s, r1, _, w1⟩ := DataW.trod_string Tryz.underlying9 t1
      obtain ⟨k, m, rfl, rfl, w2, w3⟩ := typ_of t2
      obtain ⟨b, r3, _⟩ := DataW.trod_bool Tryz.underlying4 t3
      obtain ⟨dk, dn, ds, rfl, rfl, rfl, w5, w6, w7⟩ := val_of t4
      simp at r0 r1 r3
      subst r0 r1 r3
      exact ⟨⟨i, s, k, m, b, dk, dn, ds⟩, rfl, w0, w1, w2, w3, w5, w6, w7⟩
set_option maxRecDepth 100000 in
theorem tab8_of {H : Type} {enc : TypeId × Value → H} {W : World} {sp : Nat → Bool} (fuel : Nat) (cs : List Value) (y : DataW H × List MemPlace)
    (h : DataW.trod enc Tryz.prog W 0 sp true fuel 45 cs = some y) : ∃ c : Tb, cs = fT c ∧ InT W c := by
  obtain ⟨xs, n', _, _, hl, hlen, hf⟩ := DataW.trod_struct Tryz.underlying45 h
  rw [q_tab] at hl
  match xs, hlen with
  | [y0, y1, y2, y3, y4], _ =>
    match cs, hl with
    | [c0, c1, c2, c3, c4], _ =>
      have t0 := hf 0 _ rfl
      have t1 := hf 1 _ rfl
      have t2 := hf 2 _ rfl
      have t3 := hf 3 _ rfl
      have t4 := hf 4 _ rfl
      simp [q_int, q_string, q_cols] at t0 t1 t2 t3 t4
      obtain ⟨i, r0, _, w0⟩ := DataW.trod_int Tryz.underlying3 t0
      obtain ⟨s, r1, _, w1⟩ := DataW.trod_string Tryz.underlying9 t1
      obtain ⟨k, r2, _, w2⟩ := DataW.trod_int Tryz.underlying3 t2
      obtain ⟨x, r3, _, w3⟩ := DataW.trod_int Tryz.underlying3 t3
      obtain ⟨a, len, cap, rfl, l, rfl, hl1, hlc, hl2, hl3⟩ := row_open Tryz.underlying26 q_col col_of (fun a => ⟨_, rfl⟩) t4
      simp at r0 r1 r2 r3
      subst r0 r1 r2 r3
      exact ⟨⟨i, s, k, x, a, cap, l⟩, rfl, w0, w1, w2, w3, hl1, hlc, hl2, hl3⟩
set_option maxRecDepth 100000 in
theorem openTab {H : Type} {enc : TypeId × Value → H} {W : World} {base : Nat} {v : Value} {d : DataW H} {p : List MemPlace} {sp : Nat → Bool}
    (hv : Value.okWide Tryz.prog W .any base 45 v) (h : DataW.Trod enc Tryz.prog W 0 sp true 45 v d p) : ∃ t : Tb, v = TV t ∧ InT W t := by
  obtain ⟨cs, rfl, _⟩ := okWide_struct Tryz.underlying45 hv
  obtain ⟨fuel, hf⟩ := h
  obtain ⟨t, h1, h2⟩ := tab8_of _ _ _ hf
  refine ⟨t, ?_, h2⟩
  simp only [Value.cells] at h1
  show Value.agg cs = Value.agg (fT t).toArray
  rw [← h1]
/-- a catalog's tables -/
def TabsIn (w : World) (A : Option Addr) (cap : Nat) (l : List Tb) : Prop := l.length ≤ maxLen ∧ l.length ≤ cap ∧ TabsAt w w.heap.size A l ∧ ∀ t ∈ l, InT w t
def FldsIn (w : World) (A : Option Addr) (cap : Nat) (l : List Fb) : Prop := l.length ≤ maxLen ∧ l.length ≤ cap ∧ FldsAt w w.heap.size A l ∧ ∀ f ∈ l, InF f
set_option maxRecDepth 100000 in
theorem openCat {H : Type} {enc : TypeId × Value → H} {W : World} {base : Nat} {v : Value} {d : DataW H} {p : List MemPlace} {sp : Nat → Bool}
    (hv : Value.okWide Tryz.prog W .any base 37 v) (h : DataW.Trod enc Tryz.prog W 0 sp true 37 v d p) : ∃ A cap, ∃ l : List Tb, v = .agg #[.slice A l.length cap] ∧ TabsIn W A cap l := by
  obtain ⟨cs, rfl, hsz⟩ := okWide_struct Tryz.underlying37 hv
  obtain ⟨fuel, hf⟩ := h
  rw [q_cat] at hsz
  obtain ⟨xs, n', _, _, hl, hlen, hg⟩ := DataW.trod_struct Tryz.underlying37 hf
  match xs, hlen with
  | [y0], _ =>
    obtain ⟨cl⟩ := cs
    match cl, hsz with
    | [c0], _ =>
      have t0 := hg 0 _ rfl
      simp [q_tabs, Value.cells] at t0
      obtain ⟨a, len, cap, rfl, l, rfl, hl1, hlc, hl2, hl3⟩ := row_open Tryz.underlying35 q_tab tab8_of (fun a => ⟨_, rfl⟩) t0
      exact ⟨a, cap, l, rfl, hl1, hlc, ⟨hl2, fun t ht => (hl3 t ht).2.2.2.2.2.2.1⟩, hl3⟩
/-- a row of values with what is known of its capacity -/
def RowIn (w : World) (A : Option Addr) (cap : Nat) (l : List Vb) : Prop := l.length ≤ maxLen ∧ (A = none → cap = 0) ∧ ValsAt w w.heap.size A l ∧ ∀ v ∈ l, (Lit.int .i64 v.1).wf = true ∧ (Lit.int .i64 v.2.1).wf = true ∧ v.2.2.size ≤ maxLen
end Go.Proofs.YtlbdbaafmdikcaaGreatDoor

/-
  A row of bytes that may be written, whatever its mark.
-/
namespace Go.Proofs.YtlbdbaafmdikcaaGreatDoor
open Go.RowKit

/-- a row of bytes that may be written, whatever its mark -/
def HasB (w : World) (g : Nat) (l : List UInt8) : Prop :=
  (∀ j (hj : j < l.length), w.cell? ⟨g, j, none⟩ = some (.int .u8 (l[j].toNat : Int))) ∧ ∀ j, j < l.length → w.frozen? ⟨g, j, none⟩ = false
theorem HasB.set {w : World} {g : Nat} {l : List UInt8} (h : HasB w g l) (k : Nat) (hk : k < l.length) (c : UInt8) (z : Int) (hz : z = (c.toNat : Int)) : HasB (w.setCell ⟨g, k, none⟩ (.int .u8 z)) g (l.set k c) := by
  subst hz
  refine ⟨fun j hj => ?_, fun j hj => ?_⟩
  · rw [List.length_set] at hj
    by_cases e : k = j
    · subst e
      rw [World.cell?_setCell_same _ _ _ (h.1 k hk)]; simp
    · rw [World.cell?_setCell_other _ _ _ _ (by intro e2; cases e2; exact e rfl), h.1 j hj, List.getElem_set_ne e]
  · rw [List.length_set] at hj
    rw [World.frozen?_setCell]; exact h.2 j hj
theorem HasB.below {w w' : World} {g B : Nat} {l : List UInt8} (h : HasB w g l) (hb : Below B w w') (hg : g < B) : HasB w' g l :=
  ⟨fun j hj => (hb.cell (p := ⟨g, j, none⟩) hg).trans (h.1 j hj), fun j hj => (hb.frozen (p := ⟨g, j, none⟩) hg).trans (h.2 j hj)⟩
theorem HasB.new (w : World) (s : ByteArray) (cap : Nat) (hc : s.size ≤ cap) : HasB (w.drew.alloc (.cells (bytesRow s cap) 5 ((bytesRow s cap).size, (bytesRow s cap).size + 1))) w.heap.size (bs s) := by
  have hsz : (bytesRow s cap).size = cap := by unfold bytesRow; simp; have : s.data.size = s.size := rfl; omega
  refine ⟨fun j hj => ?_, fun j hj => ?_⟩
  · rw [bs_length] at hj
    have := World.cell?_alloc_mark w.drew (bytesRow s cap) 5 ((bytesRow s cap).size, (bytesRow s cap).size + 1) j
    refine this.trans ?_
    rw [bytesRow_at s cap j hj]
    simp [bs]
  · rw [bs_length] at hj
    have := World.frozen?_alloc_mark w.drew (bytesRow s cap) 5 (bytesRow s cap).size ((bytesRow s cap).size + 1) j
    refine this.trans ?_
    rw [hsz]; simp; omega
theorem run_string_has {w : World} {g cap n : Nat} {l : List UInt8} (h : HasB w g l) (hn : n = l.length) :
    (convert 156 9 (.slice (some ⟨g, 0, none⟩) n cap)).run Tryz.prog w = .ok (.string ⟨l.toArray⟩) w := by
  subst hn
  refine run_convert_bytes_back w 156 9 5 ⟨g, 0, none⟩ cap l Tryz.underlying156 Tryz.underlying5 Tryz.underlying9 fun j hj => ?_
  rw [Addr.add_lit, Nat.zero_add]
  exact h.1 j hj

theorem bytes_of (w : World) (s : ByteArray) : ∃ cap w2, (convert 9 156 (.string s)).run Tryz.prog w = .ok (.slice (some ⟨w.heap.size, 0, none⟩) s.size cap) w2 ∧
    HasB w2 w.heap.size (bs s) ∧ Below w.heap.size w w2 ∧ w2.heap.size = w.heap.size + 1 := by
  refine ⟨_, _, run_bytes_of_string w 9 156 5 s Tryz.underlying9 Tryz.underlying156 Tryz.underlying5, HasB.new w s _ (grownCap_ge w s.size 0 5), ?_, ?_⟩
  · exact ((Below.refl w.heap.size w).drew).alloc (Nat.le_refl _) _
  · show (w.heap.push _).size = _
    simp
end Go.Proofs.YtlbdbaafmdikcaaGreatDoor

/-
  Contracts of package value's Digits and of the document's own.
-/
namespace Go.Proofs.YtlbdbaafmdikcaaGreatDoor
open Go.RowKit

/-- the digits of m are written from behind as far as place st; q is left -/
def Dig (m q st : Nat) (l : List UInt8) : Prop := l.length = 20 ∧ ((st = 20 ∧ q = m) ∨ (st < 20 ∧ ((q = 0 ∧ dn m = l.drop st) ∨ (q ≠ 0 ∧ dn m = dn q ++ l.drop st))))
theorem Dig.start (m : Nat) : Dig m m 20 (List.replicate 20 0) := ⟨rfl, .inl ⟨rfl, rfl⟩⟩
theorem set_drop (l : List UInt8) (k : Nat) (c : UInt8) (h : k < l.length) : (l.set k c).drop k = c :: l.drop (k + 1) := by
  rw [List.drop_eq_getElem_cons (by simpa using h), List.getElem_set_self, List.drop_set_of_lt (by omega)]
theorem Dig.more {m q st : Nat} {l : List UInt8} (h : Dig m q st l) (hm : m < 10000000000000000000) (hq : q ≠ 0 ∨ st = 20) : ∃ t, st = t + 1 ∧ 1 ≤ t ∧ t < 20 ∧ Dig m (q / 10) t (l.set t (dg (q % 10))) := by
  obtain ⟨hl, h⟩ := h
  have hlen := dn_len m 19 (by simpa using hm) (by omega)
  have key : ∀ t, t < 20 → ∀ (r : List UInt8), l.drop (t + 1) = r → dn m = dn q ++ r → Dig m (q / 10) t (l.set t (dg (q % 10))) := by
    intro t ht r hr he
    refine ⟨by simpa using hl, .inr ⟨ht, ?_⟩⟩
    rw [set_drop _ _ _ (by omega), hr]
    by_cases h10 : q < 10
    · exact .inl ⟨by omega, by rw [he, dn_lt h10, Nat.mod_eq_of_lt h10]; rfl⟩
    · exact .inr ⟨by omega, by rw [he, dn_ge (by omega)]; simp⟩
  rcases h with ⟨rfl, rfl⟩ | ⟨h1, ⟨rfl, h3⟩ | ⟨h2, h3⟩⟩
  · exact ⟨19, rfl, by omega, by omega, key 19 (by omega) [] (by rw [List.drop_eq_nil_of_le (by omega)]) (by simp)⟩
  · rcases hq with hq | hq
    · exact absurd rfl hq
    · omega
  · have h4 := congrArg List.length h3
    have h5 := List.length_pos_iff.2 (dn_ne q)
    rw [List.length_append, List.length_drop, hl] at h4
    exact ⟨st - 1, by omega, by omega, by omega, key (st - 1) (by omega) (l.drop st) (by rw [show st - 1 + 1 = st by omega]) h3⟩
theorem Dig.stop {m st : Nat} {l : List UInt8} (h : Dig m 0 st l) (hm : m < 10000000000000000000) (hs : st ≠ 20) : l.length = 20 ∧ ∃ t, st = t + 1 ∧ t < 19 ∧ l.drop (t + 1) = dn m := by
  obtain ⟨hl, h⟩ := h
  have hlen := dn_len m 19 (by simpa using hm) (by omega)
  rcases h with ⟨rfl, _⟩ | ⟨h1, ⟨_, h3⟩ | ⟨h2, h3⟩⟩
  · exact absurd rfl hs
  · have h4 := congrArg List.length h3
    rw [List.length_drop, hl] at h4
    exact ⟨hl, st - 1, by omega, by omega, by rw [h3, show st - 1 + 1 = st by omega]⟩
  · exact absurd rfl h2
theorem HasB.zeros (w : World) (t : TypeId) : HasB (w.alloc (.cells #[.int .u8 0, .int .u8 0, .int .u8 0, .int .u8 0, .int .u8 0, .int .u8 0, .int .u8 0, .int .u8 0, .int .u8 0, .int .u8 0, .int .u8 0, .int .u8 0, .int .u8 0, .int .u8 0, .int .u8 0, .int .u8 0, .int .u8 0, .int .u8 0, .int .u8 0, .int .u8 0] t)) w.heap.size (List.replicate 20 0) := by
  refine ⟨fun j hj => ?_, fun j hj => ?_⟩
  · have e : (#[Value.int .u8 0, .int .u8 0, .int .u8 0, .int .u8 0, .int .u8 0, .int .u8 0, .int .u8 0, .int .u8 0, .int .u8 0, .int .u8 0, .int .u8 0, .int .u8 0, .int .u8 0, .int .u8 0, .int .u8 0, .int .u8 0, .int .u8 0, .int .u8 0, .int .u8 0, .int .u8 0] : Array Value) = Array.replicate 20 (.int .u8 0) := rfl
    have hj' : j < 20 := by simpa using hj
    rw [e, List.getElem_replicate]
    simp [hj']
  · simp
/-- the end of a row of bytes, made into a string -/
theorem run_string_end {w : World} {g st n cap : Nat} {l r : List UInt8} (h : HasB w g l) (hr : l.drop st = r) (hn : n = r.length) :
    (convert 156 9 (.slice (some ⟨g, st, none⟩) n cap)).run Tryz.prog w = .ok (.string ⟨r.toArray⟩) w := by
  subst hn
  refine run_convert_bytes_back w 156 9 5 ⟨g, st, none⟩ cap r Tryz.underlying156 Tryz.underlying5 Tryz.underlying9 fun j hj => ?_
  subst hr
  rw [List.length_drop] at hj
  rw [Addr.add_lit, h.1 (st + j) (by omega), List.getElem_drop]

set_option maxRecDepth 100000 in
theorem run_slice_arr (w : World) (b t : Nat) (ht : t < 20) : (Instr.sliceAt 155 (.pointer (some ⟨b, 0, none⟩)) (some (.int .i64 (t : Nat))) none none).run Tryz.prog w = .ok (.slice (some ⟨b, t, none⟩) (20 - t) (20 - t)) w := by
  have h := run_sliceAt_array_l (P := Tryz.prog) w 155 ⟨b, 0, none⟩ (by kernel_rfl) .i64 (t : Nat) (by omega) (by show (t : Int) ≤ ((20 : Nat) : Int); omega)
  have e1 : Tryz.prog.arrayLen 155 = 20 := by kernel_rfl
  have hne : 20 ≠ t := by omega
  rw [h, e1]
  simp [go_sem, hne]
set_option maxRecDepth 100000 in
set_option maxHeartbeats 800000 in
theorem digits_any (n : Int) (w : World) (h1 : -9223372036854775808 ≤ n) (h2 : n < 9223372036854775808) : Calls Tryz.prog 144 #[.int .i64 n] w fun e w' => e = .returned (.string ⟨(dz n).toArray⟩) ∧ Below w.heap.size w w' := by
  have Hd : Hid (dz n = if n < 0 then 45 :: dn n.natAbs else dn n.natAbs) := rfl
  have hm : n.natAbs < 10000000000000000000 := by omega
  by_cases h : n < 0
  · have d : decide (n < 0) = true := by simpa using h
    rw [if_pos h] at Hd
    have He : Hid (IntKind.u64.wrap (-IntKind.u64.wrap n) = (n.natAbs : Int)) := by show _ = _; go_arith
    have Hm := Lib.hid hm; clear hm h
    generalize n.natAbs = m at He Hm Hd
    go_enter Tryz.func144, Tryz.ntmps144
    go_wp2_with fail
    simp only [He.out]
    go_loopw [4, 5] (fun r i wr => ∃ (q st : Nat) (l : List UInt8), r = .int .u64 q ∧ i = .int .i64 st ∧ st ≤ 20 ∧ q < 10000000000000000000 ∧ Hid (Dig m q st l) ∧ Hid (HasB wr w.heap.size l) ∧ Below w.heap.size w wr) (fun _ i _ => (intOf i).toNat)
    case atStart => exact ⟨m, 20, _, rfl, rfl, by omega, Hm.out, Dig.start m, HasB.zeros w _, by go_grown⟩
    case round =>
      obtain ⟨q, st, l, rfl, rfl, hst, hq, hd, hh, hb⟩ := hrel
      by_cases hgo : q ≠ 0 ∨ st = 20
      · obtain ⟨t, rfl, ht1, ht, hdn⟩ := hd.out.more Hm.out hgo
        have Hn := Lib.hid hdn; clear hdn
        have hl : t < l.length := by rw [hd.out.1]; exact ht
        obtain ⟨v, c1⟩ : ∃ v, wr.cell? ⟨w.heap.size, t, none⟩ = some v := ⟨_, hh.out.1 t hl⟩
        have f1 := hh.out.2 t hl
        have Hset := Lib.hid (hh.out.set t hl (dg (q % 10)) (48 + (q : Int) % 10) (by rw [dg_nat _ (by omega)]; omega))
        have d1 : ((q : Int) != 0) = true ∨ (((q : Int) != 0) = false ∧ t = 19) := by
          rcases hgo with h | h
          · exact .inl (by simp; omega)
          · by_cases hq0 : q = 0
            · exact .inr ⟨by simp; omega, by omega⟩
            · exact .inl (by simp; omega)
        clear hgo hl
        rcases d1 with d1 | ⟨d1, rfl⟩
        all_goals
          go_wp2_with fail
          go_roundw
          case rel => exact ⟨q / 10, _, _, by go_num, by go_num, by omega, by omega, Hn.out, Hset.out, hb.setCell (by simp) _⟩
          case measure => simp [intOf]
      · obtain rfl : q = 0 := Classical.byContradiction fun h => hgo (.inl h)
        obtain ⟨hl, t, rfl, ht, hdr⟩ := hd.out.stop Hm.out (fun h => hgo (.inr h))
        have Hset := Lib.hid (hh.out.set t (by omega) 45 45 rfl)
        have hl1 : t < l.length := by omega
        obtain ⟨v, c1⟩ : ∃ v, wr.cell? ⟨w.heap.size, t, none⟩ = some v := ⟨_, hh.out.1 t hl1⟩
        have f1 := hh.out.2 t hl1
        have d2 : ((t : Int) + 1 == 20) = false := by simp; omega
        have hsl := fun w' => run_slice_arr w' w.heap.size t (by omega)
        have hcv := run_string_end (cap := 20 - t) (st := t) (n := 20 - t) Hset.out (set_drop _ _ _ hl1) (by rw [List.length_cons, List.length_drop]; omega)
        rw [hdr] at hcv
        clear hgo hl hl1 hdr
        go_wp2_with fail
        go_ret
        exact ⟨by rw [Hd.out]; rfl, hb.setCell (by simp) _⟩
  · have d : decide (n < 0) = false := by simpa using h
    rw [if_neg h] at Hd
    have He : Hid (IntKind.u64.wrap n = (n.natAbs : Int)) := by show _ = _; go_arith
    have Hm := Lib.hid hm; clear hm h
    generalize n.natAbs = m at He Hm Hd
    go_enter Tryz.func144, Tryz.ntmps144
    go_wp2_with fail
    simp only [He.out]
    go_loopw [4, 5] (fun r i wr => ∃ (q st : Nat) (l : List UInt8), r = .int .u64 q ∧ i = .int .i64 st ∧ st ≤ 20 ∧ q < 10000000000000000000 ∧ Hid (Dig m q st l) ∧ Hid (HasB wr w.heap.size l) ∧ Below w.heap.size w wr) (fun _ i _ => (intOf i).toNat)
    case atStart => exact ⟨m, 20, _, rfl, rfl, by omega, Hm.out, Dig.start m, HasB.zeros w _, by go_grown⟩
    case round =>
      obtain ⟨q, st, l, rfl, rfl, hst, hq, hd, hh, hb⟩ := hrel
      by_cases hgo : q ≠ 0 ∨ st = 20
      · obtain ⟨t, rfl, ht1, ht, hdn⟩ := hd.out.more Hm.out hgo
        have Hn := Lib.hid hdn; clear hdn
        have hl : t < l.length := by rw [hd.out.1]; exact ht
        obtain ⟨v, c1⟩ : ∃ v, wr.cell? ⟨w.heap.size, t, none⟩ = some v := ⟨_, hh.out.1 t hl⟩
        have f1 := hh.out.2 t hl
        have Hset := Lib.hid (hh.out.set t hl (dg (q % 10)) (48 + (q : Int) % 10) (by rw [dg_nat _ (by omega)]; omega))
        have d1 : ((q : Int) != 0) = true ∨ (((q : Int) != 0) = false ∧ t = 19) := by
          rcases hgo with h | h
          · exact .inl (by simp; omega)
          · by_cases hq0 : q = 0
            · exact .inr ⟨by simp; omega, by omega⟩
            · exact .inl (by simp; omega)
        clear hgo hl
        rcases d1 with d1 | ⟨d1, rfl⟩
        all_goals
          go_wp2_with fail
          go_roundw
          case rel => exact ⟨q / 10, _, _, by go_num, by go_num, by omega, by omega, Hn.out, Hset.out, hb.setCell (by simp) _⟩
          case measure => simp [intOf]
      · obtain rfl : q = 0 := Classical.byContradiction fun h => hgo (.inl h)
        obtain ⟨hl, t, ht0, ht, hdr⟩ := hd.out.stop Hm.out (fun h => hgo (.inr h))
        rw [← ht0] at hdr
        have hst2 : st < 20 := by omega
        have d2 : ((st : Int) == 20) = false := by simp; omega
        have hsl := fun w' => run_slice_arr w' w.heap.size st hst2
        have hcv := run_string_end (cap := 20 - st) (st := st) (n := 20 - st) hh.out hdr (by rw [← hdr, List.length_drop]; omega)
        clear hgo hl hdr ht0 ht
        go_wp2_with fail
        go_ret
        exact ⟨by rw [Hd.out]; rfl, hb⟩
end Go.Proofs.YtlbdbaafmdikcaaGreatDoor

/-
  Contract of the document's own Digits.
-/
namespace Go.Proofs.YtlbdbaafmdikcaaGreatDoor
open Go.RowKit

/-- the ten digits as the document has them -/
def ten : ByteArray := ⟨#[48, 49, 50, 51, 52, 53, 54, 55, 56, 57]⟩
theorem ten_cut (n : Int) (h0 : 0 ≤ n) (h1 : n < 10) : ten.extract n.toNat (n + 1).toNat = ⟨(dz n).toArray⟩ := by
  obtain ⟨k, rfl⟩ := Int.eq_ofNat_of_zero_le h0
  have h : ∀ k : Fin 10, bs (ten.extract k.1 (k.1 + 1)) = [dg k.1] := by
    intro k
    rw [bs_extract]
    revert k; decide
  have hk : k < 10 := by omega
  refine bs_eq ?_
  rw [dz_pos h0, Int.natAbs_natCast, dn_lt hk, Int.toNat_natCast, show ((k : Int) + 1).toNat = k + 1 by omega]
  exact h ⟨k, hk⟩
theorem dz_step (n : Int) (h : 10 ≤ n ∨ n ≤ -10) : dz n = dz (n.tdiv 10) ++ dz (n.natAbs % 10 : Nat) := by
  rw [dz_pos (z := (n.natAbs % 10 : Nat)) (by omega), Int.natAbs_natCast, dn_lt (by omega : n.natAbs % 10 < 10)]
  have e : (n.tdiv 10).natAbs = n.natAbs / 10 := by rw [Int.natAbs_tdiv]; rfl
  rcases h with h | h
  · have h0 : 0 ≤ n.tdiv 10 := Int.tdiv_nonneg (by omega) (by omega)
    rw [dz_pos (by omega), dz_pos h0, e, dn_ge (by omega)]
  · have h0 : n.tdiv 10 < 0 := by
      obtain ⟨m, rfl⟩ : ∃ m : Nat, n = -(m : Int) := ⟨n.natAbs, by omega⟩
      rw [Int.neg_tdiv]
      have : ((m : Int)).tdiv 10 = ((m / 10 : Nat) : Int) := rfl
      rw [this]; omega
    rw [dz_neg (by omega), dz_neg h0, e, dn_ge (by omega)]; rfl
theorem tmod_neg (n : Int) (h : n ≤ 0) : n.tmod 10 = -((n.natAbs % 10 : Nat) : Int) := by
  obtain ⟨m, rfl⟩ : ∃ m : Nat, n = -(m : Int) := ⟨n.natAbs, by omega⟩
  rw [Int.neg_tmod, Int.natAbs_neg, Int.natAbs_natCast]
  rfl
end Go.Proofs.YtlbdbaafmdikcaaGreatDoor

/-
  Contracts of package typ's Cast and of the document's own.
-/
namespace Go.Proofs.YtlbdbaafmdikcaaGreatDoor
open Go.RowKit

/-- a value and a type in their boxes, and the result's block -/
def BxC (w w1 : World) (a b c x y p q r : Value) : Prop := Blk3 w1 w.heap.size a b c ∧ Blk2 w1 (w.heap.size + 1) x y ∧ Blk3 w1 (w.heap.size + 2) p q r ∧ w.heap.size + 2 < w1.heap.size ∧ Below w.heap.size w w1
theorem BxC.new (w : World) (a b c x y p q r : Value) (t t2 t3 : TypeId) : BxC w (((w.alloc (.cells #[a, b, c] t)).alloc (.cells #[x, y] t2)).alloc (.cells #[p, q, r] t3)) a b c x y p q r := by
  have b1 : Below w.heap.size w (w.alloc (.cells #[a, b, c] t)) := (Below.refl _ _).alloc (Nat.le_refl _) _
  have b2 : Below w.heap.size w ((w.alloc (.cells #[a, b, c] t)).alloc (.cells #[x, y] t2)) := b1.alloc (by simp) _
  have b3 : Below w.heap.size w (((w.alloc (.cells #[a, b, c] t)).alloc (.cells #[x, y] t2)).alloc (.cells #[p, q, r] t3)) := b2.alloc (by simp; omega) _
  refine ⟨((Blk3.new w a b c t).below ((Below.refl _ _).alloc (Nat.le_refl _) _) (by simp)).below ((Below.refl _ _).alloc (Nat.le_refl _) _) (by simp; omega), (Blk2.new _ _ x y t2 (by simp)).alloc (by simp) _, Blk3.new' _ _ p q r t3 (by simp), by simp, b3⟩
theorem BxC.step {w w1 w2 : World} {a b c x y p q r : Value} (h : BxC w w1 a b c x y p q r) (hb : Below w1.heap.size w1 w2) : BxC w w2 a b c x y p q r := by
  obtain ⟨h1, h2, h3, h4, h5⟩ := h
  have := hb.size
  exact ⟨h1.below hb (by omega), h2.below hb (by omega), h3.below hb h4, by omega, h5.trans (hb.mono (by omega))⟩

/-- the string that a value becomes -/
def conS (k n : Int) (s : ByteArray) : ByteArray := bif numK k then ⟨(dz n).toArray⟩ else s
set_option maxHeartbeats 800000 in
theorem content_any (k n : Int) (s : ByteArray) (w : World) (h1 : -9223372036854775808 ≤ n) (h2 : n < 9223372036854775808) : Calls Tryz.prog 136 #[VV k n s] w fun e w' => e = .returned (.string (conS k n s)) ∧ Below w.heap.size w w' := by
  have HN := Lib.hid (fun w => isnum_any k w)
  have HD := Lib.hid (fun w => digits_any n w h1 h2)
  clear h1 h2
  have Hv : Hid (conS k n s = bif numK k then ⟨(dz n).toArray⟩ else s) := rfl
  generalize numK k = b at HN Hv
  generalize (⟨(dz n).toArray⟩ : ByteArray) = D at HD Hv
  cases b
  · go_enter Tryz.func136, Tryz.ntmps136
    go_wp2_with fail
    refine (HN.out _).mono ?_
    rintro e w1 ⟨rfl, rfl⟩
    go_wp2_with fail
    go_ret
    exact ⟨by rw [Hv.out]; rfl, by go_grown⟩
  · go_enter Tryz.func136, Tryz.ntmps136
    go_wp2_with fail
    refine (HN.out _).mono ?_
    rintro e w1 ⟨rfl, rfl⟩
    go_wp2_with fail
    refine (HD.out _).mono ?_
    rintro e w1 ⟨rfl, hb⟩
    have hb' := below_new hb
    go_wp2_with fail
    go_ret
    exact ⟨by rw [Hv.out]; rfl, hb'⟩

/-- what Cast returns -/
def cR (v : Value) (e : Int) : Value := .tuple #[v, .int .i64 e]
def castR (k n : Int) (s : ByteArray) (tk tm : Int) : Value :=
  bif rightV k n (bs s) then bif rightT tk tm then bif k == 0 then cR (VV 0 0 ⟨#[]⟩) 0 else bif decide (k ≤ tk) then bif numK tk then cR (VV tk n ⟨#[]⟩) 0 else
    bif decide (tm < ((conS k n s).size : Int)) then cR (VV 0 0 ⟨#[]⟩) 10 else cR (VV tk 0 (conS k n s)) 0
  else cR (VV 0 0 ⟨#[]⟩) 9 else cR (VV 0 0 ⟨#[]⟩) 2 else cR (VV 0 0 ⟨#[]⟩) 2
def rcastR (k n : Int) (s : ByteArray) (tk tm : Int) : Value :=
  bif rightV k n (bs s) then bif rightT tk tm then bif k == 0 then cR (VV k n s) 0 else bif decide (tk < k) then cR (VV 0 0 ⟨#[]⟩) 9 else bif decide (tk < 3) then cR (VV tk n ⟨#[]⟩) 0 else
    bif decide (k < 3) then bif decide (tm < ((⟨(dz n).toArray⟩ : ByteArray).size : Int)) then cR (VV 0 0 ⟨#[]⟩) 10 else cR (VV tk 0 ⟨(dz n).toArray⟩) 0
    else bif decide (tm < (s.size : Int)) then cR (VV 0 0 ⟨#[]⟩) 10 else cR (VV tk 0 s) 0
  else cR (VV 0 0 ⟨#[]⟩) 2 else cR (VV 0 0 ⟨#[]⟩) 2
theorem rightV_kind {k n : Int} {l : List UInt8} (h : rightV k n l = true) : k = 0 ∨ k = 1 ∨ k = 2 ∨ k = 3 ∨ k = 4 := by
  rcases rightV_cases k n l with h' | h' | h' | h' | h' | h'
  · exact .inl h'.1
  · exact .inr (.inl h'.1)
  · exact .inr (.inr (.inl h'.1))
  · exact .inr (.inr (.inr (.inl h'.1)))
  · exact .inr (.inr (.inr (.inr h'.1)))
  · rw [h'.2.2.2.2.2] at h; cases h
theorem rightV_null {n : Int} {s : ByteArray} (h : rightV 0 n (bs s) = true) : n = 0 ∧ s = ⟨#[]⟩ := by
  unfold rightV at h
  simp at h
  refine ⟨h.1, is_empty s ?_⟩
  rw [← bs_length, h.2]; rfl
theorem rcastR_eq (k n : Int) (s : ByteArray) (tk tm : Int) : rcastR k n s tk tm = castR k n s tk tm := by
  unfold rcastR castR
  cases ha : rightV k n (bs s)
  · rfl
  cases hb : rightT tk tm
  · rfl
  have hk := rightV_kind ha
  have hb' := (rightT_iff tk tm).1 hb
  simp only [cond_true]
  by_cases h0 : k = 0
  · subst h0
    obtain ⟨rfl, rfl⟩ := rightV_null ha
    rfl
  · have e0 : (k == 0) = false := by simpa using h0
    rw [e0]
    simp only [cond_false]
    by_cases h1 : tk < k
    · have d1 : decide (tk < k) = true := by simpa using h1
      have d2 : decide (k ≤ tk) = false := by simp; omega
      rw [d1, d2]; rfl
    · have d1 : decide (tk < k) = false := by simp; omega
      have d2 : decide (k ≤ tk) = true := by simp; omega
      rw [d1, d2]
      simp only [cond_false, cond_true]
      have d3 : decide (tk < 3) = numK tk := by
        apply bool_eq
        rw [numK_iff, decide_eq_true_eq]
        omega
      rw [d3]
      cases numK tk
      · simp only [cond_false]
        unfold conS
        have d4 : decide (k < 3) = numK k := by
          apply bool_eq
          rw [numK_iff, decide_eq_true_eq]
          omega
        rw [d4]
        cases numK k <;> rfl
      · rfl
set_option maxRecDepth 100000 in
set_option maxHeartbeats 3200000 in
theorem tcast_any (k n : Int) (s : ByteArray) (tk tm : Int) (w : World) (ht : UTab w) (h1 : -9223372036854775808 ≤ n) (h2 : n < 9223372036854775808) :
    Calls Tryz.prog 113 #[VV k n s, TT tk tm] w fun e w' => e = .returned (castR k n s tk tm) ∧ Below w.heap.size w w' := by
  have HT := Lib.hid ht; clear ht
  have HV := Lib.hid (fun w ht => vright_any k n s w ht)
  have HR := Lib.hid (fun w => tright_any tk tm w)
  have HC := Lib.hid (fun w => reach_any tk k w)
  have HN := Lib.hid (fun w => isnum_any tk w)
  have HD := Lib.hid (fun w => content_any k n s w h1 h2)
  clear h1 h2
  have Hv : Hid (castR k n s tk tm = bif rightV k n (bs s) then bif rightT tk tm then bif k == 0 then cR (VV 0 0 ⟨#[]⟩) 0 else bif decide (k ≤ tk) then bif numK tk then cR (VV tk n ⟨#[]⟩) 0 else
    bif decide (tm < ((conS k n s).size : Int)) then cR (VV 0 0 ⟨#[]⟩) 10 else cR (VV tk 0 (conS k n s)) 0
    else cR (VV 0 0 ⟨#[]⟩) 9 else cR (VV 0 0 ⟨#[]⟩) 2 else cR (VV 0 0 ⟨#[]⟩) 2) := rfl
  generalize rightV k n (bs s) = a at HV Hv
  generalize rightT tk tm = b at HR Hv
  generalize hz : (k == 0) = z at Hv
  generalize decide (k ≤ tk) = c at HC Hv
  generalize numK tk = d at HN Hv
  generalize conS k n s = D at HD Hv
  generalize hg : decide (tm < (D.size : Int)) = g at Hv
  cases a
  · go_enter Tryz.func113, Tryz.ntmps113
    go_wp2_with fail
    refine (HV.out _ (((HT.out.alloc _).alloc _).alloc _)).mono ?_
    rintro e w1 ⟨rfl, hb1⟩
    have HB := Lib.hid ((BxC.new w _ _ _ _ _ _ _ _ _ _ _).step hb1)
    clear hb1
    obtain ⟨⟨c0, c1, c2, _⟩, ⟨d0, d1, _⟩, ⟨e0, e1, e2, f0, f1, f2⟩, _, hb'⟩ := HB.out
    go_wp2_with fail
    try simp only [Exit.inBlock, Exit.then]
    refine bodyPost_ret (results_v2 rfl _ _ rfl HB.out.2.2.1.set3) rfl ?_
    exact ⟨by rw [Hv.out]; rfl, by go_grown⟩
  cases b
  · go_enter Tryz.func113, Tryz.ntmps113
    go_wp2_with fail
    refine (HV.out _ (((HT.out.alloc _).alloc _).alloc _)).mono ?_
    rintro e w1 ⟨rfl, hb1⟩
    have HB := Lib.hid ((BxC.new w _ _ _ _ _ _ _ _ _ _ _).step hb1)
    clear hb1
    obtain ⟨⟨c0, c1, c2, _⟩, ⟨d0, d1, _⟩, _⟩ := HB.out
    go_wp2_with fail
    refine (HR.out _).mono ?_
    rintro e w2 ⟨rfl, hb2⟩
    have HB2 := Lib.hid (HB.out.step hb2)
    clear hb2 c0 c1 c2 d0 d1
    obtain ⟨⟨c0, c1, c2, _⟩, ⟨d0, d1, _⟩, ⟨e0, e1, e2, f0, f1, f2⟩, _, hb'⟩ := HB2.out
    go_wp2_with fail
    try simp only [Exit.inBlock, Exit.then]
    refine bodyPost_ret (results_v2 rfl _ _ rfl HB2.out.2.2.1.set3) rfl ?_
    exact ⟨by rw [Hv.out]; rfl, by go_grown⟩
  cases z
  · cases c
    · go_enter Tryz.func113, Tryz.ntmps113
      go_wp2_with fail
      refine (HV.out _ (((HT.out.alloc _).alloc _).alloc _)).mono ?_
      rintro e w1 ⟨rfl, hb1⟩
      have HB := Lib.hid ((BxC.new w _ _ _ _ _ _ _ _ _ _ _).step hb1)
      clear hb1
      obtain ⟨⟨c0, c1, c2, _⟩, ⟨d0, d1, _⟩, _⟩ := HB.out
      go_wp2_with fail
      refine (HR.out _).mono ?_
      rintro e w2 ⟨rfl, hb2⟩
      have HB2 := Lib.hid (HB.out.step hb2)
      clear hb2 c0 c1 c2 d0 d1
      obtain ⟨⟨c0, c1, c2, _⟩, ⟨d0, d1, _⟩, _⟩ := HB2.out
      go_wp2_with fail
      refine (HC.out _).mono ?_
      rintro e w3 ⟨rfl, rfl⟩
      clear c0 c1 c2 d0 d1
      obtain ⟨⟨c0, c1, c2, _⟩, ⟨d0, d1, _⟩, ⟨e0, e1, e2, f0, f1, f2⟩, _, hb'⟩ := HB2.out
      go_wp2_with fail
      try simp only [Exit.inBlock, Exit.then]
      refine bodyPost_ret (results_v2 rfl _ _ rfl HB2.out.2.2.1.set3) rfl ?_
      exact ⟨by rw [Hv.out]; rfl, by go_grown⟩
    · cases d
      · cases g
        · go_enter Tryz.func113, Tryz.ntmps113
          go_wp2_with fail
          refine (HV.out _ (((HT.out.alloc _).alloc _).alloc _)).mono ?_
          rintro e w1 ⟨rfl, hb1⟩
          have HB := Lib.hid ((BxC.new w _ _ _ _ _ _ _ _ _ _ _).step hb1)
          clear hb1
          obtain ⟨⟨c0, c1, c2, _⟩, ⟨d0, d1, _⟩, _⟩ := HB.out
          go_wp2_with fail
          refine (HR.out _).mono ?_
          rintro e w2 ⟨rfl, hb2⟩
          have HB2 := Lib.hid (HB.out.step hb2)
          clear hb2 c0 c1 c2 d0 d1
          obtain ⟨⟨c0, c1, c2, _⟩, ⟨d0, d1, _⟩, _⟩ := HB2.out
          go_wp2_with fail
          refine (HC.out _).mono ?_
          rintro e w3 ⟨rfl, rfl⟩
          clear c0 c1 c2 d0 d1
          obtain ⟨⟨c0, c1, c2, _⟩, ⟨d0, d1, _⟩, _⟩ := HB2.out
          go_wp2_with fail
          refine (HN.out _).mono ?_
          rintro e w3 ⟨rfl, rfl⟩
          clear c0 c1 c2 d0 d1
          obtain ⟨⟨c0, c1, c2, _⟩, ⟨d0, d1, _⟩, _⟩ := HB2.out
          go_wp2_with fail
          refine (HD.out _).mono ?_
          rintro e w4 ⟨rfl, hb3⟩
          have HB3 := Lib.hid (HB2.out.step hb3)
          clear hb3 c0 c1 c2 d0 d1
          obtain ⟨⟨c0, c1, c2, _⟩, ⟨d0, d1, _⟩, ⟨e0, e1, e2, f0, f1, f2⟩, _, hb'⟩ := HB3.out
          go_wp2_with fail
          try simp only [Exit.inBlock, Exit.then]
          refine bodyPost_ret (results_v2 rfl _ _ rfl HB3.out.2.2.1.set3) rfl ?_
          exact ⟨by rw [Hv.out]; rfl, by go_grown⟩
        · go_enter Tryz.func113, Tryz.ntmps113
          go_wp2_with fail
          refine (HV.out _ (((HT.out.alloc _).alloc _).alloc _)).mono ?_
          rintro e w1 ⟨rfl, hb1⟩
          have HB := Lib.hid ((BxC.new w _ _ _ _ _ _ _ _ _ _ _).step hb1)
          clear hb1
          obtain ⟨⟨c0, c1, c2, _⟩, ⟨d0, d1, _⟩, _⟩ := HB.out
          go_wp2_with fail
          refine (HR.out _).mono ?_
          rintro e w2 ⟨rfl, hb2⟩
          have HB2 := Lib.hid (HB.out.step hb2)
          clear hb2 c0 c1 c2 d0 d1
          obtain ⟨⟨c0, c1, c2, _⟩, ⟨d0, d1, _⟩, _⟩ := HB2.out
          go_wp2_with fail
          refine (HC.out _).mono ?_
          rintro e w3 ⟨rfl, rfl⟩
          clear c0 c1 c2 d0 d1
          obtain ⟨⟨c0, c1, c2, _⟩, ⟨d0, d1, _⟩, _⟩ := HB2.out
          go_wp2_with fail
          refine (HN.out _).mono ?_
          rintro e w3 ⟨rfl, rfl⟩
          clear c0 c1 c2 d0 d1
          obtain ⟨⟨c0, c1, c2, _⟩, ⟨d0, d1, _⟩, _⟩ := HB2.out
          go_wp2_with fail
          refine (HD.out _).mono ?_
          rintro e w4 ⟨rfl, hb3⟩
          have HB3 := Lib.hid (HB2.out.step hb3)
          clear hb3 c0 c1 c2 d0 d1
          obtain ⟨⟨c0, c1, c2, _⟩, ⟨d0, d1, _⟩, ⟨e0, e1, e2, f0, f1, f2⟩, _, hb'⟩ := HB3.out
          go_wp2_with fail
          try simp only [Exit.inBlock, Exit.then]
          refine bodyPost_ret (results_v2 rfl _ _ rfl HB3.out.2.2.1.set3) rfl ?_
          exact ⟨by rw [Hv.out]; rfl, by go_grown⟩
      · go_enter Tryz.func113, Tryz.ntmps113
        go_wp2_with fail
        refine (HV.out _ (((HT.out.alloc _).alloc _).alloc _)).mono ?_
        rintro e w1 ⟨rfl, hb1⟩
        have HB := Lib.hid ((BxC.new w _ _ _ _ _ _ _ _ _ _ _).step hb1)
        clear hb1
        obtain ⟨⟨c0, c1, c2, _⟩, ⟨d0, d1, _⟩, _⟩ := HB.out
        go_wp2_with fail
        refine (HR.out _).mono ?_
        rintro e w2 ⟨rfl, hb2⟩
        have HB2 := Lib.hid (HB.out.step hb2)
        clear hb2 c0 c1 c2 d0 d1
        obtain ⟨⟨c0, c1, c2, _⟩, ⟨d0, d1, _⟩, _⟩ := HB2.out
        go_wp2_with fail
        refine (HC.out _).mono ?_
        rintro e w3 ⟨rfl, rfl⟩
        clear c0 c1 c2 d0 d1
        obtain ⟨⟨c0, c1, c2, _⟩, ⟨d0, d1, _⟩, _⟩ := HB2.out
        go_wp2_with fail
        refine (HN.out _).mono ?_
        rintro e w3 ⟨rfl, rfl⟩
        clear c0 c1 c2 d0 d1
        obtain ⟨⟨c0, c1, c2, _⟩, ⟨d0, d1, _⟩, ⟨e0, e1, e2, f0, f1, f2⟩, _, hb'⟩ := HB2.out
        go_wp2_with fail
        try simp only [Exit.inBlock, Exit.then]
        refine bodyPost_ret (results_v2 rfl _ _ rfl HB2.out.2.2.1.set3) rfl ?_
        exact ⟨by rw [Hv.out]; rfl, by go_grown⟩
  · go_enter Tryz.func113, Tryz.ntmps113
    go_wp2_with fail
    refine (HV.out _ (((HT.out.alloc _).alloc _).alloc _)).mono ?_
    rintro e w1 ⟨rfl, hb1⟩
    have HB := Lib.hid ((BxC.new w _ _ _ _ _ _ _ _ _ _ _).step hb1)
    clear hb1
    obtain ⟨⟨c0, c1, c2, _⟩, ⟨d0, d1, _⟩, _⟩ := HB.out
    go_wp2_with fail
    refine (HR.out _).mono ?_
    rintro e w2 ⟨rfl, hb2⟩
    have HB2 := Lib.hid (HB.out.step hb2)
    clear hb2 c0 c1 c2 d0 d1
    obtain ⟨⟨c0, c1, c2, _⟩, ⟨d0, d1, _⟩, ⟨e0, e1, e2, f0, f1, f2⟩, _, hb'⟩ := HB2.out
    go_wp2_with fail
    try simp only [Exit.inBlock, Exit.then]
    refine bodyPost_ret (results_v2 rfl _ _ rfl HB2.out.2.2.1.set3) rfl ?_
    exact ⟨by rw [Hv.out]; rfl, by go_grown⟩
end Go.Proofs.YtlbdbaafmdikcaaGreatDoor

/-
  The mathematics of widening: what fits a type is cast to each that is as wide.
-/
namespace Go.Proofs.YtlbdbaafmdikcaaGreatDoor

theorem enc_asc (c : UInt8) (h : c.toNat < 128) : enc c.toNat = [c] := by
  unfold enc
  simp [h, by8]
theorem asc_text : ∀ (l : List UInt8), (∀ c ∈ l, c.toNat < 128) → text (l.map UInt8.toNat) = l
  | [], _ => rfl
  | a :: r, h => by
    have := asc_text r (fun c hc => h c (by simp [hc]))
    unfold text at this ⊢
    rw [List.map_cons, List.flatMap_cons, enc_asc a (h a (by simp)), this]; rfl
theorem asc_sg (l : List UInt8) (h : ∀ c ∈ l, c.toNat < 128) : (sg l).isSome = true := by
  have := sg_text (l.map UInt8.toNat) (fun n hn => by
    obtain ⟨c, hc, rfl⟩ := List.mem_map.1 hn
    have := h c hc
    rw [isP_iff]; omega) []
  rw [List.append_nil, asc_text l h, sg_nil] at this
  rw [this]; rfl
theorem dz_asc (z : Int) : ∀ c ∈ dz z, c.toNat < 128 := by
  have hd : ∀ c ∈ dn z.natAbs, c.toNat < 128 := fun c hc => by
    have := (isD_iff c).1 (dn_all _ c hc)
    omega
  unfold dz
  split
  · intro c hc
    rcases List.mem_cons.1 hc with rfl | hc
    · decide
    · exact hd c hc
  · exact hd
theorem dz_len32 (z : Int) (h : fitsB z 32 = true) : (dz z).length ≤ 11 := by
  rw [fitsB_eq z 32 (by omega)] at h
  simp at h
  have h3 := dn_len z.natAbs 10 (by omega) (by omega)
  unfold dz; split <;> simp <;> omega

def cN (bk n : Int) : Int := bif numK bk then n else 0
def cS (bk k n : Int) (s : ByteArray) : ByteArray := bif numK bk then ⟨#[]⟩ else conS k n s
theorem fit_iff (k m k' n : Int) (s : ByteArray) : fitT k m k' n s = true ↔ rightT k m = true ∧ rightV k' n (bs s) = true ∧ k' = k ∧ (s.size : Int) ≤ m := by
  unfold fitT
  simp only [Bool.and_eq_true, decide_eq_true_eq, beq_iff_eq, and_assoc]
theorem numK_yes {k : Int} (h : k = 1 ∨ k = 2) : numK k = true := (numK_iff k).2 h
theorem numK_no {k : Int} (h : k = 3 ∨ k = 4) : numK k = false := by rcases h with rfl | rfl <;> rfl
theorem conS_yes {k n : Int} {s : ByteArray} (h : k = 1 ∨ k = 2) : conS k n s = ⟨(dz n).toArray⟩ := by unfold conS; rw [numK_yes h]; rfl
theorem conS_no {k n : Int} {s : ByteArray} (h : k = 3 ∨ k = 4) : conS k n s = s := by unfold conS; rw [numK_no h]; rfl
theorem right1 {n : Int} {l : List UInt8} (h : rightV 1 n l = true) : fitsB n 32 = true ∧ l = [] := by
  unfold rightV at h
  simpa using h
theorem right34 {k n : Int} {l : List UInt8} (hk : k = 3 ∨ k = 4) (h : rightV k n l = true) : n = 0 ∧ l.length ≤ 120 ∧ (k = 3 → (sg l).isSome = true) := by
  unfold rightV at h
  rcases hk with rfl | rfl
  · simp at h
    exact ⟨h.1.1, h.1.2, fun _ => h.2⟩
  · simp at h
    exact ⟨h.1, h.2, fun e => absurd e (by decide)⟩
theorem con_len {k m n : Int} {s : ByteArray} (hf : fitT k m k n s = true) (h1 : -9223372036854775808 ≤ n) (h2 : n < 9223372036854775808) : ((conS k n s).size : Int) ≤ roomT k m := by
  rw [fit_iff] at hf
  obtain ⟨a, b, _, d⟩ := hf
  have r := roomT_spec k m
  rw [rightT_iff] at a
  have hk : k = 1 ∨ k = 2 ∨ (k = 3 ∨ k = 4) := by omega
  rcases hk with rfl | rfl | hk
  · rw [conS_yes (.inl rfl), ba_size, r.1 rfl]
    have := dz_len32 n (right1 b).1
    omega
  · rw [conS_yes (.inr rfl), ba_size, r.2.1 rfl]
    have := dz_len n h1 h2
    omega
  · rw [conS_no hk, r.2.2 (by omega) (by omega)]
    exact d
theorem widen {ak am bk bm k n : Int} {s : ByteArray} (hw : wideT bk bm ak am = true) (hf : fitT ak am k n s = true) (h1 : -9223372036854775808 ≤ n) (h2 : n < 9223372036854775808) :
    castR k n s bk bm = cR (VV bk (cN bk n) (cS bk k n s)) 0 ∧ fitT bk bm bk (cN bk n) (cS bk k n s) = true := by
  have hf' := hf
  rw [fit_iff] at hf'
  obtain ⟨a, b, rfl, d⟩ := hf'
  have hl := con_len hf h1 h2
  rw [wideT_iff] at hw
  obtain ⟨e, _, f, g⟩ := hw
  have e' := (rightT_iff bk bm).1 e
  rw [rightT_iff] at a
  have hz : (k == 0) = false := by
    rw [beq_eq_false_iff_ne]
    omega
  have hle : decide (k ≤ bk) = true := by simpa using f
  constructor
  · unfold castR cN cS
    rw [b, e, hz, hle]
    by_cases hn : bk = 1 ∨ bk = 2
    · rw [numK_yes hn]; rfl
    · have hn' : bk = 3 ∨ bk = 4 := by omega
      have hd : decide (bm < ((conS k n s).size : Int)) = false := by simp; omega
      rw [numK_no hn', hd]; rfl
  · rw [fit_iff]
    unfold cN cS
    by_cases hn : bk = 1 ∨ bk = 2
    · rw [numK_yes hn]
      refine ⟨e, ?_, rfl, by show (0 : Int) ≤ bm; omega⟩
      rcases hn with rfl | rfl
      · obtain rfl : k = 1 := by omega
        have := (right1 b).1
        show rightV 1 n [] = true
        unfold rightV
        simp [this]
      · rfl
    · have hn' : bk = 3 ∨ bk = 4 := by omega
      rw [numK_no hn']
      refine ⟨e, ?_, rfl, by show ((conS k n s).size : Int) ≤ bm; omega⟩
      show rightV bk 0 (bs (conS k n s)) = true
      have hlen : (bs (conS k n s)).length ≤ 120 := by rw [bs_length]; omega
      rcases hn' with rfl | rfl
      · have hs : (sg (bs (conS k n s))).isSome = true := by
          by_cases hk : k = 1 ∨ k = 2
          · rw [conS_yes hk, bs_mk (dz n)]
            exact asc_sg _ (dz_asc n)
          · obtain rfl : k = 3 := by omega
            rw [conS_no (.inl rfl)]
            exact (right34 (.inl rfl) b).2.2 rfl
        unfold rightV
        simp [hlen, hs]
      · unfold rightV
        simp [hlen]
theorem empty_of {s : ByteArray} (h : bs s = []) : s = ⟨#[]⟩ := is_empty s (by rw [← bs_length, h]; rfl)
/-- unlike values stay unlike -/
theorem widen_same {ak am bk bm k n k' n' : Int} {s s' : ByteArray} (hw : wideT bk bm ak am = true) (hf : fitT ak am k n s = true) (hf' : fitT ak am k' n' s' = true) :
    (n = n' ∧ s = s') ∨ (n ≠ n' ∧ cN bk n ≠ cN bk n') ∨ (n ≠ n' ∧ cN bk n = cN bk n' ∧ cS bk k n s ≠ cS bk k' n' s') ∨ (n = n' ∧ s ≠ s' ∧ cN bk n = cN bk n' ∧ cS bk k n s ≠ cS bk k' n' s') := by
  rw [fit_iff] at hf hf'
  obtain ⟨a, b, rfl, d⟩ := hf
  obtain ⟨_, b', rfl, d'⟩ := hf'
  rw [wideT_iff] at hw
  obtain ⟨e, _, f, g⟩ := hw
  rw [rightT_iff] at a e
  unfold cN cS
  by_cases hk : k' = 1 ∨ k' = 2
  · have q1 := empty_of (rightV_num b hk)
    have q2 := empty_of (rightV_num b' hk)
    subst q1 q2
    by_cases hn : n = n'
    · exact .inl ⟨hn, rfl⟩
    · by_cases hb : bk = 1 ∨ bk = 2
      · rw [numK_yes hb]
        exact .inr (.inl ⟨hn, hn⟩)
      · rw [numK_no (by omega), conS_yes hk, conS_yes hk]
        refine .inr (.inr (.inl ⟨hn, rfl, fun h => hn ?_⟩))
        have : bs ⟨(dz n).toArray⟩ = bs ⟨(dz n').toArray⟩ := congrArg bs h
        rw [bs_mk (dz n), bs_mk (dz n')] at this
        exact dz_inj this
  · have hk' : k' = 3 ∨ k' = 4 := by omega
    have z1 := (right34 hk' b).1
    have z2 := (right34 hk' b').1
    subst z1 z2
    by_cases hs : s = s'
    · exact .inl ⟨rfl, hs⟩
    · rw [numK_no (show bk = 3 ∨ bk = 4 by omega), conS_no hk', conS_no hk']
      exact .inr (.inr (.inr ⟨rfl, hs, rfl, hs⟩))
/-- cast on is cast at once -/
theorem widen_on {bk ck k n : Int} {s : ByteArray} (hk : 1 ≤ k) (h1 : k ≤ bk) (h2 : bk ≤ ck) (h3 : ck ≤ 4) : cN ck (cN bk n) = cN ck n ∧ cS ck bk (cN bk n) (cS bk k n s) = cS ck k n s := by
  unfold cN cS
  by_cases hc : ck = 1 ∨ ck = 2
  · rw [numK_yes hc, numK_yes (show bk = 1 ∨ bk = 2 by omega)]
    exact ⟨rfl, rfl⟩
  · rw [numK_no (show ck = 3 ∨ ck = 4 by omega)]
    refine ⟨rfl, ?_⟩
    show conS bk _ _ = conS k n s
    by_cases hb : bk = 1 ∨ bk = 2
    · rw [numK_yes hb, conS_yes hb, conS_yes (show k = 1 ∨ k = 2 by omega)]; rfl
    · rw [numK_no (show bk = 3 ∨ bk = 4 by omega), conS_no (show bk = 3 ∨ bk = 4 by omega)]; rfl
end Go.Proofs.YtlbdbaafmdikcaaGreatDoor

/-
  Changes of a catalog in plain words (layer 9): which are plain, what is wrong with one, the catalog behind it, and that it is right. No memory stands here: a table without the place of its columns (Tp).
-/
namespace Go.Proofs.YtlbdbaafmdikcaaGreatDoor

/-! ### Lists whose numbers increase and whose names are unlike -/
abbrev Apart {α : Type} (idf : α → Int) (nmf : α → ByteArray) (x y : α) : Prop := idf x < idf y ∧ nmf x ≠ nmf y
theorem dist_pair {α : Type} {idf : α → Int} {nmf : α → ByteArray} {l : List α} : Dist idf nmf l ↔ l.Pairwise (Apart idf nmf) := by
  rw [List.pairwise_iff_getElem]
  constructor
  · intro h i j hi hj hij
    have hx : l[i]? = some l[i] := by simp [hi]
    have hy : l[j]? = some l[j] := by simp [hj]
    refine ⟨?_, (h j hj l[j] hy).2 i l[i] hij hx⟩
    exact dist_lt h (j - i - 1) i l[i] l[j] hx (by rw [show i + (j - i - 1) + 1 = j by omega]; exact hy)
  · intro h i hi x hx
    obtain ⟨h1, rfl⟩ := List.getElem?_eq_some_iff.1 hx
    refine ⟨fun y h0 hy => ?_, fun j y hj hy => ?_⟩
    · obtain ⟨h2, rfl⟩ := List.getElem?_eq_some_iff.1 hy
      exact (h (i - 1) i h2 h1 (by omega)).1
    · obtain ⟨h2, rfl⟩ := List.getElem?_eq_some_iff.1 hy
      exact (h j i h2 h1 hj).2

/-- a table without the place of its columns; a change -/
structure Tp where
  id : Int
  nm : ByteArray
  key : Int
  nx : Int
  cols : List Cb
structure Dp where
  op : Int
  tb : ByteArray
  co : ByteArray
  to : ByteArray
  key : ByteArray
  tk : Int
  tm : Int
  nl : Bool
  dk : Int
  dn : Int
  ds : ByteArray
  cols : List Cb
def Tb.p (t : Tb) : Tp := ⟨t.id, t.nm, t.key, t.nx, t.cols⟩
def Tp.b (t : Tp) : Tb := ⟨t.id, t.nm, t.key, t.nx, none, 0, t.cols⟩
theorem right_p (t : Tb) : rightTab t = rightTab t.p.b := rfl
def RightT (t : Tp) : Prop := 0 ≤ t.id ∧ rightN (bs t.nm) = true ∧ t.nx ≤ 200 ∧ 1 ≤ t.cols.length ∧ t.cols.length ≤ 10 ∧ (∀ c ∈ t.cols, rightC c = true ∧ c.id < t.nx) ∧ t.cols.Pairwise (Apart Cb.id Cb.nm) ∧ ∃ c ∈ t.cols, c.id = t.key ∧ c.nl = false
theorem rightTp_iff (t : Tp) : rightTab t.b = true ↔ RightT t := by
  unfold RightT
  rw [← dist_pair]
  show (decide (0 ≤ t.id) && (rightN (bs t.nm) && (decide (t.nx ≤ 200) && (decide (1 ≤ (t.cols.length : Int)) && (decide ((t.cols.length : Int) ≤ 10) && (rightCols t.b && tf (keyOk t.b))))))) = true ↔ _
  have hc : rightCols t.b = ((t.cols.all fun c => rightC c && decide (c.id < t.nx)) && tf (Dist Cb.id Cb.nm t.cols)) := rfl
  rw [hc]
  simp only [Bool.and_eq_true, decide_eq_true_eq, tf_iff, List.all_eq_true]
  constructor
  · rintro ⟨h1, h2, h3, h4, h5, ⟨h6, h7⟩, h8⟩
    refine ⟨h1, h2, h3, by omega, by omega, h6, h7, ?_⟩
    have := (tf_iff.2 h8).symm.trans (key_any (t := t.b) h7)
    obtain ⟨c, hc, h⟩ := List.any_eq_true.1 this.symm
    simp only [Bool.and_eq_true, beq_iff_eq, Bool.not_eq_true'] at h
    exact ⟨c, hc, h⟩
  · rintro ⟨h1, h2, h3, h4, h5, h6, h7, c, hc, h⟩
    refine ⟨h1, h2, h3, by omega, by omega, ⟨h6, h7⟩, ?_⟩
    refine tf_iff.1 ((key_any (t := t.b) h7).trans (List.any_eq_true.2 ⟨c, hc, ?_⟩))
    simp only [Bool.and_eq_true, beq_iff_eq, Bool.not_eq_true']
    exact h
def RightL (l : List Tp) : Prop := l.length ≤ 6 ∧ (∀ t ∈ l, RightT t) ∧ l.Pairwise (Apart Tp.id Tp.nm)
theorem rightL_iff (l : List Tb) : rightCat l = true ↔ RightL (l.map Tb.p) := by
  unfold rightCat RightL
  simp only [Bool.and_eq_true, decide_eq_true_eq, tf_iff, List.all_eq_true, List.length_map, List.mem_map, List.pairwise_map, dist_pair]
  constructor
  · rintro ⟨h1, h2, h3⟩
    exact ⟨by omega, fun t ⟨x, hx, e⟩ => by rw [← e]; exact (rightTp_iff _).1 (h2 x hx), h3⟩
  · rintro ⟨h1, h2, h3⟩
    exact ⟨by omega, fun t ht => (rightTp_iff t.p).2 (h2 _ ⟨t, ht, rfl⟩), h3⟩

/-! ### Changes -/
def emp (s : ByteArray) : Bool := eqS s ByteArray.empty
def zTy (d : Dp) : Bool := (d.tk == 0) && (d.tm == 0)
def zDf (d : Dp) : Bool := nulV d.dk d.dn d.ds
def zCo (d : Dp) : Bool := d.cols.isEmpty
/-- is it well formed? -/
def plainD (d : Dp) : Bool :=
  if d.op = 1 then emp d.co && (emp d.to && (zTy d && (!d.nl && (zDf d && d.cols.all fun c => c.id == 0))))
  else if d.op = 2 then emp d.co && (emp d.to && (emp d.key && (zTy d && (!d.nl && (zDf d && zCo d)))))
  else if d.op = 3 then emp d.co && (emp d.key && (zTy d && (!d.nl && (zDf d && zCo d))))
  else if d.op = 4 then emp d.to && (emp d.key && zCo d)
  else if d.op = 5 then emp d.to && (emp d.key && (zTy d && (!d.nl && (zDf d && zCo d))))
  else if d.op = 6 then emp d.key && (zTy d && (!d.nl && (zDf d && zCo d)))
  else if d.op = 7 then emp d.to && (emp d.key && (!d.nl && (zDf d && zCo d)))
  else if d.op = 8 then emp d.to && (emp d.key && (zTy d && (!d.nl && zCo d)))
  else false
def findT (l : List Tp) (s : ByteArray) : Option Nat := l.findIdx? fun t => eqS t.nm s
def colP (l : List Cb) (s : ByteArray) : Option Nat := l.findIdx? fun c => eqS c.nm s
/-- does a value fit as a Default? -/
def presetD (tk tm dk dn : Int) (ds : ByteArray) : Bool := nulV dk dn ds || fitT tk tm dk dn ds
/-- why the column at a place of a new table can't stand; 0 -/
def ncolE (l : List Cb) (i : Nat) (c : Cb) : Int :=
  if rightN (bs c.nm) = true then (if ((l.take i).findIdx? fun y => eqS y.nm c.nm).isSome = true then 14 else if rightT c.tk c.tm = true then (if presetD c.tk c.tm c.dk c.dn c.ds = true then 0 else 10) else 9) else 8
def ncolsE (l : List Cb) : Nat → List Cb → Int
  | _, [] => 0
  | i, c :: r => if ncolE l i c = 0 then ncolsE l (i + 1) r else ncolE l i c
def createE (l : List Tp) (d : Dp) (id : Int) : Int :=
  if rightN (bs d.tb) = true then
    if (findT l d.tb).isSome = true then 14 else if 6 ≤ l.length then 3 else if (l.findIdx? fun t => t.id == id).isSome = true then 24 else if d.cols.length = 0 then 5 else if 10 < d.cols.length then 3
    else if ncolsE d.cols 0 d.cols = 0 then (match (colP d.cols d.key).bind fun k => d.cols[k]? with
      | none => 15
      | some c => if c.nl = true then 11 else 0)
    else ncolsE d.cols 0 d.cols
  else 8
def addE (t : Tp) (d : Dp) : Int :=
  if 10 ≤ t.cols.length ∨ 200 ≤ t.nx then 3 else if rightN (bs d.co) = true then
    if (colP t.cols d.co).isSome = true then 14 else if rightT d.tk d.tm = true then
      if presetD d.tk d.tm d.dk d.dn d.ds = true then (if d.nl = false ∧ nulV d.dk d.dn d.ds = true then 11 else 0) else 10
    else 9
  else 8
/-- the column of a name -/
def colV (l : List Cb) (s : ByteArray) : Option Cb := (colP l s).bind fun k => l[k]?
def wrongE (l : List Tp) (t : Tp) (d : Dp) : Int :=
  if d.op = 2 then 0 else if d.op = 3 then (if rightN (bs d.to) = true then (if (findT l d.to).isSome = true then 14 else 0) else 8)
  else if d.op = 4 then addE t d
  else match colV t.cols d.co with
    | none => 13
    | some x => if d.op = 5 ∧ x.id = t.key then 15 else if d.op = 6 ∧ rightN (bs d.to) = false then 8 else if d.op = 6 ∧ (colP t.cols d.to).isSome = true then 14
      else if d.op = 7 ∧ rightT d.tk d.tm = false then 9 else if d.op = 7 ∧ wideT d.tk d.tm x.tk x.tm = false then 16 else if d.op = 8 ∧ presetD x.tk x.tm d.dk d.dn d.ds = false then 10 else 0
/-- a Default cast to a type -/
def castC (tk tm : Int) (c : Cb) : Cb := if nulV c.dk c.dn c.ds = true then { c with tk := tk, tm := tm, dk := 0, dn := 0, ds := ⟨#[]⟩ } else { c with tk := tk, tm := tm, dk := tk, dn := cN tk c.dn, ds := cS tk c.dk c.dn c.ds }
def colsD (t : Tp) (d : Dp) : List Cb :=
  if d.op = 4 then t.cols ++ [⟨t.nx, d.co, d.tk, d.tm, d.nl, d.dk, d.dn, d.ds⟩]
  else if d.op = 5 then t.cols.filter fun c => !eqS c.nm d.co
  else if d.op = 6 then t.cols.map fun c => if eqS c.nm d.co = true then { c with nm := d.to } else c
  else if d.op = 7 then t.cols.map fun c => if eqS c.nm d.co = true then castC d.tk d.tm c else c
  else if d.op = 8 then t.cols.map fun c => if eqS c.nm d.co = true then { c with dk := d.dk, dn := d.dn, ds := d.ds } else c
  else t.cols
/-- a table, changed -/
def tableD (t : Tp) (d : Dp) : Tp := ⟨t.id, if d.op = 3 then d.to else t.nm, t.key, if d.op = 4 then t.nx + 1 else t.nx, colsD t d⟩
theorem colP_none {l : List Cb} {s : ByteArray} (h : (colP l s).isSome ≠ true) : ∀ c ∈ l, c.nm ≠ s := fun c hc e => by
  unfold colP at h
  cases hf : l.findIdx? fun c => eqS c.nm s with
  | some k => rw [hf] at h; exact h rfl
  | none =>
    rw [List.findIdx?_eq_none_iff] at hf
    have := hf c hc
    rw [eqS_iff.2 e] at this; cases this
theorem colV_some {l : List Cb} {s : ByteArray} {x : Cb} (h : colV l s = some x) : x ∈ l ∧ x.nm = s := by
  unfold colV colP at h
  cases hf : l.findIdx? fun c => eqS c.nm s with
  | none => rw [hf] at h; cases h
  | some k =>
    rw [hf] at h
    obtain ⟨y, h1, h2, _⟩ := find_some hf
    have : l[k]? = some x := h
    rw [h1] at this; cases this
    exact ⟨List.mem_of_getElem? h1, eqS_iff.1 h2⟩
/-- in a list of unlike names two of one name are one -/
theorem apart_nm {l : List Cb} (hp : l.Pairwise (Apart Cb.id Cb.nm)) {a b : Cb} (ha : a ∈ l) (hb : b ∈ l) (h : a.nm = b.nm) : a = b := by
  obtain ⟨i, hi⟩ := List.mem_iff_getElem?.1 ha
  obtain ⟨j, hj⟩ := List.mem_iff_getElem?.1 hb
  obtain ⟨h1, rfl⟩ := List.getElem?_eq_some_iff.1 hi
  obtain ⟨h2, rfl⟩ := List.getElem?_eq_some_iff.1 hj
  rw [List.pairwise_iff_getElem] at hp
  rcases Nat.lt_trichotomy i j with e | e | e
  · exact absurd h (hp i j h1 h2 e).2
  · subst e; rfl
  · exact absurd h.symm (hp j i h2 h1 e).2
theorem rightC_iff (c : Cb) : rightC c = true ↔ 0 ≤ c.id ∧ c.id < 200 ∧ rightN (bs c.nm) = true ∧ rightT c.tk c.tm = true ∧ presetD c.tk c.tm c.dk c.dn c.ds = true := by
  unfold rightC presetD
  simp only [Bool.and_eq_true, decide_eq_true_eq]
theorem castC_right {c : Cb} {tk tm : Int} (hc : rightC c = true) (hw : wideT tk tm c.tk c.tm = true) (h1 : -9223372036854775808 ≤ c.dn) (h2 : c.dn < 9223372036854775808) : rightC (castC tk tm c) = true := by
  rw [rightC_iff] at hc ⊢
  obtain ⟨a1, a2, a3, a4, a5⟩ := hc
  have hr : rightT tk tm = true := by unfold wideT at hw; simp only [Bool.and_eq_true] at hw; exact hw.1.1.1
  unfold castC
  by_cases hn : nulV c.dk c.dn c.ds = true
  · rw [if_pos hn]
    refine ⟨a1, a2, a3, hr, ?_⟩
    unfold presetD
    rw [show nulV 0 0 ⟨#[]⟩ = true by unfold nulV; rw [show eqS ⟨#[]⟩ ByteArray.empty = true from eqS_self _]; rfl]; rfl
  · rw [if_neg hn]
    refine ⟨a1, a2, a3, hr, ?_⟩
    unfold presetD at a5 ⊢
    simp only [Bool.or_eq_true] at a5 ⊢
    rcases a5 with h | h
    · exact absurd h hn
    · right
      have hk : c.dk = c.tk := by rw [fit_iff] at h; exact h.2.2.1
      exact (widen hw h h1 h2).2
/-- numbers of 64 bits -/
def W64 (l : List Cb) : Prop := ∀ c ∈ l, -9223372036854775808 ≤ c.dn ∧ c.dn < 9223372036854775808
theorem map_right {t : Tp} (ht : RightT t) (f : Cb → Cb) (hid : ∀ c, (f c).id = c.id) (hnl : ∀ c, (f c).nl = c.nl) (hr : ∀ c ∈ t.cols, rightC (f c) = true) (hp : (t.cols.map f).Pairwise (Apart Cb.id Cb.nm)) :
    RightT ⟨t.id, t.nm, t.key, t.nx, t.cols.map f⟩ := by
  obtain ⟨t1, t2, t3, t4, t5, t6, t7, kc, k1, k2, k3⟩ := ht
  refine ⟨t1, t2, t3, by simpa using t4, by simpa using t5, fun c hc => ?_, hp, f kc, List.mem_map.2 ⟨kc, k1, rfl⟩, by rw [hid]; exact k2, by rw [hnl]; exact k3⟩
  obtain ⟨x, hx, rfl⟩ := List.mem_map.1 hc
  exact ⟨hr x hx, by rw [hid]; exact (t6 x hx).2⟩
theorem tableD_right {l : List Tp} {t : Tp} {d : Dp} (ht : RightT t) (h64 : W64 t.cols) (hop : d.op ≠ 1 ∧ d.op ≠ 2 ∧ 1 ≤ d.op ∧ d.op ≤ 8) (he : wrongE l t d = 0) : RightT (tableD t d) := by
  obtain ⟨t1, t2, t3, t4, t5, t6, t7, kc, k1, k2, k3⟩ := ht
  obtain ⟨o1, o2, o3, o4⟩ := hop
  unfold wrongE at he
  rw [if_neg o2] at he
  rcases (show d.op = 3 ∨ d.op = 4 ∨ d.op = 5 ∨ d.op = 6 ∨ d.op = 7 ∨ d.op = 8 by omega) with e | e | e | e | e | e
  · rw [if_pos e] at he
    have hN : rightN (bs d.to) = true := by
      cases h : rightN (bs d.to) with
      | true => rfl
      | false => rw [h] at he; cases he
    have hD : tableD t d = ⟨t.id, d.to, t.key, t.nx, t.cols⟩ := by unfold tableD colsD; simp [e]
    rw [hD]
    exact ⟨t1, hN, t3, t4, t5, t6, t7, kc, k1, k2, k3⟩
  · rw [if_neg (by omega), if_pos e] at he
    unfold addE at he
    by_cases hl : 10 ≤ t.cols.length ∨ 200 ≤ t.nx
    · rw [if_pos hl] at he; cases he
    rw [if_neg hl] at he
    by_cases hN : rightN (bs d.co) = true
    · rw [if_pos hN] at he
      by_cases hC : (colP t.cols d.co).isSome = true
      · rw [if_pos hC] at he; cases he
      rw [if_neg hC] at he
      by_cases hT : rightT d.tk d.tm = true
      · rw [if_pos hT] at he
        by_cases hP : presetD d.tk d.tm d.dk d.dn d.ds = true
        · have hD : tableD t d = ⟨t.id, t.nm, t.key, t.nx + 1, t.cols ++ [⟨t.nx, d.co, d.tk, d.tm, d.nl, d.dk, d.dn, d.ds⟩]⟩ := by unfold tableD colsD; simp [e]
          rw [hD]
          have hk := t6 kc k1
          have hk0 := ((rightC_iff kc).1 hk.1).1
          refine ⟨t1, t2, by show t.nx + 1 ≤ 200; omega, by simp, by simp; omega, fun c hc => ?_, ?_, kc, by simp [k1], k2, k3⟩
          · rcases List.mem_append.1 hc with h | h
            · have := t6 c h
              exact ⟨this.1, by show c.id < t.nx + 1; omega⟩
            · obtain rfl : c = ⟨t.nx, d.co, d.tk, d.tm, d.nl, d.dk, d.dn, d.ds⟩ := by simpa using h
              exact ⟨(rightC_iff _).2 ⟨by show 0 ≤ t.nx; omega, by show t.nx < 200; omega, hN, hT, hP⟩, by show t.nx < t.nx + 1; omega⟩
          · refine List.pairwise_append.2 ⟨t7, List.pairwise_singleton _ _, fun a ha b hb => ?_⟩
            obtain rfl : b = ⟨t.nx, d.co, d.tk, d.tm, d.nl, d.dk, d.dn, d.ds⟩ := by simpa using hb
            exact ⟨(t6 a ha).2, colP_none hC a ha⟩
        · rw [if_neg hP] at he; cases he
      · rw [if_neg hT] at he; cases he
    · rw [if_neg hN] at he; cases he
  · rw [if_neg (by omega), if_neg (by omega)] at he
    cases hx : colV t.cols d.co with
    | none => rw [hx] at he; cases he
    | some x =>
      rw [hx] at he
      obtain ⟨hxm, hxn⟩ := colV_some hx
      simp only [e] at he
      simp at he
      have hD : tableD t d = ⟨t.id, t.nm, t.key, t.nx, t.cols.filter fun c => !eqS c.nm d.co⟩ := by unfold tableD colsD; simp [e]
      rw [hD]
      have hkk : kc ∈ t.cols.filter fun c => !eqS c.nm d.co := by
        refine List.mem_filter.2 ⟨k1, ?_⟩
        cases hq : eqS kc.nm d.co with
        | false => rfl
        | true =>
          have := apart_nm t7 k1 hxm (by rw [eqS_iff.1 hq, hxn])
          rw [← this] at he
          exact absurd k2 he
      refine ⟨t1, t2, t3, List.length_pos_of_mem hkk, Nat.le_trans (List.length_filter_le _ _) t5, fun c hc => t6 c (List.mem_filter.1 hc).1, t7.filter _, kc, hkk, k2, k3⟩
  · rw [if_neg (by omega), if_neg (by omega)] at he
    cases hx : colV t.cols d.co with
    | none => rw [hx] at he; cases he
    | some x =>
      rw [hx] at he
      simp only [e] at he
      simp at he
      have hN : rightN (bs d.to) = true := by
        cases h : rightN (bs d.to) with
        | true => rfl
        | false => rw [h] at he; cases he
      have hC : (colP t.cols d.to).isSome ≠ true := fun h => by rw [hN, h] at he; cases he
      have hD : tableD t d = ⟨t.id, t.nm, t.key, t.nx, t.cols.map fun c => if eqS c.nm d.co = true then { c with nm := d.to } else c⟩ := by unfold tableD colsD; simp [e]
      rw [hD]
      refine map_right ⟨t1, t2, t3, t4, t5, t6, t7, kc, k1, k2, k3⟩ _ (fun c => by split <;> rfl) (fun c => by split <;> rfl) (fun c hc => ?_) (List.pairwise_map.2 (t7.imp_of_mem fun ha hb h => ⟨?_, ?_⟩))
      · split
        · have := (rightC_iff c).1 (t6 c hc).1
          exact (rightC_iff _).2 ⟨this.1, this.2.1, hN, this.2.2.2⟩
        · exact (t6 c hc).1
      · have := h.1
        split <;> split <;> exact this
      · have h0 := colP_none hC
        split
        · split
          · rename_i a b
            exact absurd ((eqS_iff.1 a).trans (eqS_iff.1 b).symm) h.2
          · exact fun e => h0 _ hb e.symm
        · split
          · exact fun e => h0 _ ha e
          · exact h.2
  · rw [if_neg (by omega), if_neg (by omega)] at he
    cases hx : colV t.cols d.co with
    | none => rw [hx] at he; cases he
    | some x =>
      rw [hx] at he
      obtain ⟨hxm, hxn⟩ := colV_some hx
      simp only [e] at he
      simp at he
      have hW : wideT d.tk d.tm x.tk x.tm = true := by
        cases h : rightT d.tk d.tm with
        | false => rw [h] at he; cases he
        | true =>
          cases h2 : wideT d.tk d.tm x.tk x.tm with
          | true => rfl
          | false => rw [h, h2] at he; cases he
      have hD : tableD t d = ⟨t.id, t.nm, t.key, t.nx, t.cols.map fun c => if eqS c.nm d.co = true then castC d.tk d.tm c else c⟩ := by unfold tableD colsD; simp [e]
      rw [hD]
      have hci : ∀ c, (castC d.tk d.tm c).id = c.id ∧ (castC d.tk d.tm c).nl = c.nl ∧ (castC d.tk d.tm c).nm = c.nm := fun c => by unfold castC; split <;> exact ⟨rfl, rfl, rfl⟩
      refine map_right ⟨t1, t2, t3, t4, t5, t6, t7, kc, k1, k2, k3⟩ _ (fun c => by split; exact (hci c).1; rfl) (fun c => by split; exact (hci c).2.1; rfl) (fun c hc => ?_) (List.pairwise_map.2 (t7.imp fun {a b} h => ?_))
      · split
        · rename_i hq
          have : c = x := apart_nm t7 hc hxm (by rw [eqS_iff.1 hq, hxn])
          subst this
          exact castC_right (t6 c hc).1 hW (h64 c hc).1 (h64 c hc).2
        · exact (t6 c hc).1
      · have ea : (if eqS a.nm d.co = true then castC d.tk d.tm a else a).id = a.id ∧ (if eqS a.nm d.co = true then castC d.tk d.tm a else a).nm = a.nm := by split; exact ⟨(hci a).1, (hci a).2.2⟩; exact ⟨rfl, rfl⟩
        have eb : (if eqS b.nm d.co = true then castC d.tk d.tm b else b).id = b.id ∧ (if eqS b.nm d.co = true then castC d.tk d.tm b else b).nm = b.nm := by split; exact ⟨(hci b).1, (hci b).2.2⟩; exact ⟨rfl, rfl⟩
        exact ⟨by rw [ea.1, eb.1]; exact h.1, by rw [ea.2, eb.2]; exact h.2⟩
  · rw [if_neg (by omega), if_neg (by omega)] at he
    cases hx : colV t.cols d.co with
    | none => rw [hx] at he; cases he
    | some x =>
      rw [hx] at he
      obtain ⟨hxm, hxn⟩ := colV_some hx
      simp only [e] at he
      simp at he
      have hD : tableD t d = ⟨t.id, t.nm, t.key, t.nx, t.cols.map fun c => if eqS c.nm d.co = true then { c with dk := d.dk, dn := d.dn, ds := d.ds } else c⟩ := by unfold tableD colsD; simp [e]
      rw [hD]
      refine map_right ⟨t1, t2, t3, t4, t5, t6, t7, kc, k1, k2, k3⟩ _ (fun c => by split <;> rfl) (fun c => by split <;> rfl) (fun c hc => ?_) (List.pairwise_map.2 (t7.imp fun {a b} h => ⟨?_, ?_⟩))
      · split
        · rename_i hq
          have : c = x := apart_nm t7 hc hxm (by rw [eqS_iff.1 hq, hxn])
          subst this
          have := (rightC_iff c).1 (t6 c hc).1
          exact (rightC_iff _).2 ⟨this.1, this.2.1, this.2.2.1, this.2.2.2.1, he⟩
        · exact (t6 c hc).1
      · have := h.1
        split <;> split <;> exact this
      · have := h.2
        split <;> split <;> exact this
/-! ### A new table -/
def madeT (d : Dp) (id : Int) : Tp := ⟨id, d.tb, (((colP d.cols d.key).getD 0 : Nat) : Int), (d.cols.length : Int), d.cols.mapIdx fun i c => { c with id := (i : Int) }⟩
def insT (t : Tp) : List Tp → List Tp
  | [] => [t]
  | x :: r => if t.id < x.id then t :: x :: r else x :: insT t r
theorem ncolsE_all (l : List Cb) : ∀ (r : List Cb) (i : Nat), ncolsE l i r = 0 → ∀ (j : Nat) c, r[j]? = some c → ncolE l (i + j) c = 0
  | [], _, _, j, c, h => by simp at h
  | a :: r, i, h0, j, c, h => by
    rw [ncolsE] at h0
    by_cases e : ncolE l i a = 0
    · rw [if_pos e] at h0
      cases j with
      | zero => simp at h; subst h; exact e
      | succ j =>
        have := ncolsE_all l r (i + 1) h0 j c (by simpa using h)
        rw [show i + (j + 1) = i + 1 + j by omega]; exact this
    · rw [if_neg e] at h0; exact absurd h0 e
theorem ncolE_0 {l : List Cb} {i : Nat} {c : Cb} (h : ncolE l i c = 0) : rightN (bs c.nm) = true ∧ (∀ j y, j < i → l[j]? = some y → y.nm ≠ c.nm) ∧ rightT c.tk c.tm = true ∧ presetD c.tk c.tm c.dk c.dn c.ds = true := by
  unfold ncolE at h
  by_cases h1 : rightN (bs c.nm) = true
  · rw [if_pos h1] at h
    by_cases h2 : ((l.take i).findIdx? fun y => eqS y.nm c.nm).isSome = true
    · rw [if_pos h2] at h; cases h
    rw [if_neg h2] at h
    by_cases h3 : rightT c.tk c.tm = true
    · rw [if_pos h3] at h
      by_cases h4 : presetD c.tk c.tm c.dk c.dn c.ds = true
      · refine ⟨h1, fun j y hj hy e => h2 ?_, h3, h4⟩
        cases hf : (l.take i).findIdx? fun y => eqS y.nm c.nm with
        | some q => rfl
        | none =>
          rw [List.findIdx?_eq_none_iff] at hf
          have := hf y (List.mem_of_getElem? (i := j) (by rw [List.getElem?_take]; simp [hj, hy]))
          rw [eqS_iff.2 e] at this; cases this
      · rw [if_neg h4] at h; cases h
    · rw [if_neg h3] at h; cases h
  · rw [if_neg h1] at h; cases h
/-- what is known where a table may be made -/
theorem createE_0 {l : List Tp} {d : Dp} {id : Int} (h : createE l d id = 0) : rightN (bs d.tb) = true ∧ (∀ t ∈ l, t.nm ≠ d.tb) ∧ l.length < 6 ∧ (∀ t ∈ l, t.id ≠ id) ∧ 1 ≤ d.cols.length ∧ d.cols.length ≤ 10 ∧
    (∀ (j : Nat) c, d.cols[j]? = some c → ncolE d.cols j c = 0) ∧ ∃ (k : Nat) (c : Cb), colP d.cols d.key = some k ∧ d.cols[k]? = some c ∧ c.nl = false := by
  unfold createE at h
  by_cases h1 : rightN (bs d.tb) = true
  · rw [if_pos h1] at h
    by_cases h2 : (findT l d.tb).isSome = true
    · rw [if_pos h2] at h; cases h
    rw [if_neg h2] at h
    by_cases h3 : 6 ≤ l.length
    · rw [if_pos h3] at h; cases h
    rw [if_neg h3] at h
    by_cases h4 : (l.findIdx? fun t => t.id == id).isSome = true
    · rw [if_pos h4] at h; cases h
    rw [if_neg h4] at h
    by_cases h5 : d.cols.length = 0
    · rw [if_pos h5] at h; cases h
    rw [if_neg h5] at h
    by_cases h6 : 10 < d.cols.length
    · rw [if_pos h6] at h; cases h
    rw [if_neg h6] at h
    by_cases h7 : ncolsE d.cols 0 d.cols = 0
    · rw [if_pos h7] at h
      refine ⟨h1, fun t ht e => h2 ?_, by omega, fun t ht e => h4 ?_, by omega, by omega, fun j c hj => ?_, ?_⟩
      · unfold findT
        cases hf : l.findIdx? fun t => eqS t.nm d.tb with
        | some q => rfl
        | none =>
          rw [List.findIdx?_eq_none_iff] at hf
          have := hf t ht
          rw [eqS_iff.2 e] at this; cases this
      · cases hf : l.findIdx? fun t => t.id == id with
        | some q => rfl
        | none =>
          rw [List.findIdx?_eq_none_iff] at hf
          have := hf t ht
          rw [e] at this; simp at this
      · have := ncolsE_all d.cols d.cols 0 h7 j c hj
        rwa [Nat.zero_add] at this
      · cases hk : colP d.cols d.key with
        | none => rw [hk] at h; cases h
        | some k =>
          rw [hk] at h
          obtain ⟨c, hc⟩ : ∃ c, d.cols[k]? = some c := by
            have := find_lt hk
            exact ⟨d.cols[k], by simp [this]⟩
          refine ⟨k, c, rfl, hc, ?_⟩
          simp only [Option.bind_some, hc] at h
          cases hn : c.nl with
          | false => rfl
          | true => rw [hn] at h; cases h
    · rw [if_neg h7] at h; exact absurd h h7
  · rw [if_neg h1] at h; cases h
theorem madeT_right {l : List Tp} {d : Dp} {id : Int} (h0 : 0 ≤ id) (h : createE l d id = 0) : RightT (madeT d id) := by
  obtain ⟨h1, _, _, _, h5, h6, h7, k, c, hk, hc, hn⟩ := createE_0 h
  have hg : ∀ (j : Nat) x, (d.cols.mapIdx fun i c => ({ c with id := (i : Int) } : Cb))[j]? = some x → ∃ y, d.cols[j]? = some y ∧ x = { y with id := (j : Int) } := fun j x hx => by
    rw [List.getElem?_mapIdx] at hx
    cases hy : d.cols[j]? with
    | none => rw [hy] at hx; cases hx
    | some y => rw [hy] at hx; exact ⟨y, rfl, (Option.some.inj hx).symm⟩
  have hl : ∀ (j : Nat) y, d.cols[j]? = some y → j < d.cols.length := fun j y hy => (List.getElem?_eq_some_iff.1 hy).1
  refine ⟨h0, h1, by show (d.cols.length : Int) ≤ 200; omega, by show 1 ≤ (d.cols.mapIdx _).length; rw [List.length_mapIdx]; exact h5, by show (d.cols.mapIdx _).length ≤ 10; rw [List.length_mapIdx]; exact h6, fun x hx => ?_, ?_, ?_⟩
  · obtain ⟨j, hj⟩ := List.mem_iff_getElem?.1 hx
    obtain ⟨y, hy, rfl⟩ := hg j x hj
    obtain ⟨a1, _, a3, a4⟩ := ncolE_0 (h7 j y hy)
    have := hl j y hy
    exact ⟨(rightC_iff _).2 ⟨by show (0 : Int) ≤ (j : Int); omega, by show (j : Int) < 200; omega, a1, a3, a4⟩, by show (j : Int) < (d.cols.length : Int); omega⟩
  · show (d.cols.mapIdx _).Pairwise _
    rw [List.pairwise_iff_getElem]
    intro i j hi hj hij
    obtain ⟨y, hy, ey⟩ := hg i _ (List.getElem?_eq_getElem hi)
    obtain ⟨z, hz, ez⟩ := hg j _ (List.getElem?_eq_getElem hj)
    rw [ey, ez]
    exact ⟨by show (i : Int) < (j : Int); omega, (ncolE_0 (h7 j z hz)).2.1 i y hij hy⟩
  · refine ⟨{ c with id := (k : Int) }, ?_, ?_, hn⟩
    · refine List.mem_of_getElem? (i := k) ?_
      show (d.cols.mapIdx _)[k]? = _
      rw [List.getElem?_mapIdx, hc]; rfl
    · show (k : Int) = (((colP d.cols d.key).getD 0 : Nat) : Int)
      rw [hk]; rfl
theorem mem_insT {t x : Tp} : ∀ {l : List Tp}, x ∈ insT t l ↔ x = t ∨ x ∈ l
  | [] => by simp [insT]
  | y :: r => by
    unfold insT
    split
    · simp
    · simp only [List.mem_cons, mem_insT (l := r)]
      constructor
      · rintro (h | h | h)
        · exact .inr (.inl h)
        · exact .inl h
        · exact .inr (.inr h)
      · rintro (h | h | h)
        · exact .inr (.inl h)
        · exact .inl h
        · exact .inr (.inr h)
theorem length_insT (t : Tp) : ∀ l : List Tp, (insT t l).length = l.length + 1
  | [] => rfl
  | y :: r => by
    unfold insT
    split
    · rfl
    · simp [length_insT t r]
theorem insT_apart {t : Tp} : ∀ {l : List Tp}, l.Pairwise (Apart Tp.id Tp.nm) → (∀ x ∈ l, x.id ≠ t.id ∧ x.nm ≠ t.nm) → (insT t l).Pairwise (Apart Tp.id Tp.nm)
  | [], _, _ => List.pairwise_singleton _ _
  | y :: r, hp, h => by
    rw [List.pairwise_cons] at hp
    unfold insT
    split
    · rename_i hlt
      rw [List.pairwise_cons, List.pairwise_cons]
      refine ⟨fun x hx => ?_, hp.1, hp.2⟩
      have hx' := (h x hx).2
      rcases List.mem_cons.1 hx with rfl | hx
      · exact ⟨hlt, fun e => hx' e.symm⟩
      · exact ⟨Int.lt_trans hlt (hp.1 x hx).1, fun e => hx' e.symm⟩
    · rename_i hge
      rw [List.pairwise_cons]
      refine ⟨fun x hx => ?_, insT_apart hp.2 fun x hx => h x (List.mem_cons_of_mem _ hx)⟩
      rcases mem_insT.1 hx with rfl | hx
      · have := h y List.mem_cons_self
        exact ⟨by have := this.1; omega, this.2⟩
      · exact hp.1 x hx
/-! ### The catalog behind a change -/
noncomputable def applyE (l : List Tp) (d : Dp) (id : Int) : Int :=
  if tf (RightL l) = true ∧ plainD d = true ∧ 0 ≤ id then (if d.op = 1 then createE l d id else match (findT l d.tb).bind fun k => l[k]? with
    | none => 12
    | some t => wrongE l t d)
  else 2
def applyR (l : List Tp) (d : Dp) (id : Int) : List Tp :=
  if d.op = 1 then insT (madeT d id) l else match findT l d.tb with
    | none => l
    | some k => if d.op = 2 then l.eraseIdx k else match l[k]? with
      | none => l
      | some t => l.set k (tableD t d)
theorem plainD_op {d : Dp} (h : plainD d = true) : 1 ≤ d.op ∧ d.op ≤ 8 := by
  unfold plainD at h
  by_cases e : d.op = 1 ∨ d.op = 2 ∨ d.op = 3 ∨ d.op = 4 ∨ d.op = 5 ∨ d.op = 6 ∨ d.op = 7 ∨ d.op = 8
  · omega
  · rw [if_neg (by omega), if_neg (by omega), if_neg (by omega), if_neg (by omega), if_neg (by omega), if_neg (by omega), if_neg (by omega), if_neg (by omega)] at h
    cases h
theorem findT_some {l : List Tp} {s : ByteArray} {k : Nat} (h : findT l s = some k) : ∃ t, l[k]? = some t ∧ t.nm = s := by
  obtain ⟨t, h1, h2, _⟩ := find_some h
  exact ⟨t, h1, eqS_iff.1 h2⟩
theorem findT_none {l : List Tp} {s : ByteArray} (h : (findT l s).isSome ≠ true) : ∀ t ∈ l, t.nm ≠ s := fun t ht e => by
  unfold findT at h
  cases hf : l.findIdx? fun t => eqS t.nm s with
  | some k => rw [hf] at h; exact h rfl
  | none =>
    rw [List.findIdx?_eq_none_iff] at hf
    have := hf t ht
    rw [eqS_iff.2 e] at this; cases this
/-- another table in a table's place, of the same number and of a name that no other has -/
theorem set_apart {l : List Tp} {k : Nat} {t u : Tp} (hp : l.Pairwise (Apart Tp.id Tp.nm)) (hk : l[k]? = some t) (hid : u.id = t.id) (hnm : ∀ (j : Nat) x, j ≠ k → l[j]? = some x → x.nm ≠ u.nm) : (l.set k u).Pairwise (Apart Tp.id Tp.nm) := by
  rw [List.pairwise_iff_getElem] at hp ⊢
  obtain ⟨hkl, rfl⟩ := List.getElem?_eq_some_iff.1 hk
  intro i j hi hj hij
  rw [List.length_set] at hi hj
  rw [List.getElem_set, List.getElem_set]
  by_cases e1 : k = i
  · subst e1
    rw [if_pos rfl, if_neg (by omega)]
    exact ⟨by rw [hid]; exact (hp k j hi hj hij).1, fun e => hnm j l[j] (by omega) (by simp [hj]) e.symm⟩
  · rw [if_neg e1]
    by_cases e2 : k = j
    · subst e2
      rw [if_pos rfl]
      exact ⟨by rw [hid]; exact (hp i k hi hj hij).1, hnm i l[i] (by omega) (by simp [hi])⟩
    · rw [if_neg e2]
      exact hp i j hi hj hij
/-- the changed catalog is right -/
theorem apply_right {l : List Tp} {d : Dp} {id : Int} (h64 : ∀ t ∈ l, W64 t.cols) (h : applyE l d id = 0) : RightL (applyR l d id) := by
  unfold applyE at h
  by_cases hc : tf (RightL l) = true ∧ plainD d = true ∧ 0 ≤ id
  · rw [if_pos hc] at h
    obtain ⟨hR, hP, hI⟩ := hc
    obtain ⟨r1, r2, r3⟩ := tf_iff.1 hR
    have hop := plainD_op hP
    by_cases e1 : d.op = 1
    · rw [if_pos e1] at h
      have hm := madeT_right hI h
      obtain ⟨_, c2, c3, c4, _⟩ := createE_0 h
      unfold applyR
      rw [if_pos e1]
      refine ⟨by rw [length_insT]; omega, fun t ht => ?_, insT_apart r3 fun x hx => ⟨c4 x hx, c2 x hx⟩⟩
      rcases mem_insT.1 ht with rfl | ht
      · exact hm
      · exact r2 t ht
    · rw [if_neg e1] at h
      unfold applyR
      rw [if_neg e1]
      cases hf : findT l d.tb with
      | none => rw [hf] at h; cases h
      | some k =>
        obtain ⟨t, ht, hn⟩ := findT_some hf
        rw [hf] at h
        simp only [Option.bind_some, ht] at h
        have htm := List.mem_of_getElem? ht
        by_cases e2 : d.op = 2
        · simp only [e2, if_pos]
          exact ⟨Nat.le_trans (List.length_eraseIdx_le l k) r1, fun x hx => r2 x (List.mem_of_mem_eraseIdx hx), r3.sublist (List.eraseIdx_sublist l k)⟩
        · simp only [ht, if_neg e2]
          have hT := tableD_right (r2 t htm) (h64 t htm) ⟨e1, e2, hop.1, hop.2⟩ h
          refine ⟨by rw [List.length_set]; exact r1, fun x hx => ?_, set_apart r3 ht rfl fun j x hj hx => ?_⟩
          · rcases List.mem_or_eq_of_mem_set hx with hx | rfl
            · exact r2 x hx
            · exact hT
          · show x.nm ≠ (if d.op = 3 then d.to else t.nm)
            by_cases e3 : d.op = 3
            · rw [if_pos e3]
              refine findT_none (l := l) (fun hs => ?_) x (List.mem_of_getElem? hx)
              unfold wrongE at h
              rw [if_neg e2, if_pos e3] at h
              split at h
              · cases h
              · cases h
            · rw [if_neg e3]
              rw [List.pairwise_iff_getElem] at r3
              obtain ⟨h1, rfl⟩ := List.getElem?_eq_some_iff.1 hx
              obtain ⟨h2, rfl⟩ := List.getElem?_eq_some_iff.1 ht
              rcases Nat.lt_or_gt_of_ne hj with e | e
              · exact (r3 j k h1 h2 e).2
              · exact fun q => (r3 k j h2 h1 e).2 q.symm
  · rw [if_neg hc] at h; cases h
end Go.Proofs.YtlbdbaafmdikcaaGreatDoor

/-
  What a change does to a catalog, by its members (layer 9): changes of unlike names in either order, tables that stay, numbers of columns that are kept.
-/
namespace Go.Proofs.YtlbdbaafmdikcaaGreatDoor

/-- in a list of unlike names, of unlike numbers, two of one name, of one number are one -/
theorem tp_nm {l : List Tp} (hp : l.Pairwise (Apart Tp.id Tp.nm)) {a b : Tp} (ha : a ∈ l) (hb : b ∈ l) (h : a.nm = b.nm) : a = b := by
  obtain ⟨i, hi⟩ := List.mem_iff_getElem?.1 ha
  obtain ⟨j, hj⟩ := List.mem_iff_getElem?.1 hb
  obtain ⟨h1, rfl⟩ := List.getElem?_eq_some_iff.1 hi
  obtain ⟨h2, rfl⟩ := List.getElem?_eq_some_iff.1 hj
  rw [List.pairwise_iff_getElem] at hp
  rcases Nat.lt_trichotomy i j with e | e | e
  · exact absurd h (hp i j h1 h2 e).2
  · subst e; rfl
  · exact absurd h.symm (hp j i h2 h1 e).2
theorem tp_id {l : List Tp} (hp : l.Pairwise (Apart Tp.id Tp.nm)) {a b : Tp} (ha : a ∈ l) (hb : b ∈ l) (h : a.id = b.id) : a = b := by
  obtain ⟨i, hi⟩ := List.mem_iff_getElem?.1 ha
  obtain ⟨j, hj⟩ := List.mem_iff_getElem?.1 hb
  obtain ⟨h1, rfl⟩ := List.getElem?_eq_some_iff.1 hi
  obtain ⟨h2, rfl⟩ := List.getElem?_eq_some_iff.1 hj
  rw [List.pairwise_iff_getElem] at hp
  rcases Nat.lt_trichotomy i j with e | e | e
  · have := (hp i j h1 h2 e).1; omega
  · subst e; rfl
  · have := (hp j i h2 h1 e).1; omega
/-- lists whose numbers increase are their members -/
theorem sorted_ext : ∀ {l m : List Tp}, l.Pairwise (Apart Tp.id Tp.nm) → m.Pairwise (Apart Tp.id Tp.nm) → (∀ x, x ∈ l ↔ x ∈ m) → l = m
  | [], [], _, _, _ => rfl
  | [], y :: m, _, _, h => by have := (h y).2 List.mem_cons_self; cases this
  | x :: l, [], _, _, h => by have := (h x).1 List.mem_cons_self; cases this
  | x :: l, y :: m, hl, hm, h => by
    rw [List.pairwise_cons] at hl hm
    have e : x = y := by
      rcases List.mem_cons.1 ((h x).1 List.mem_cons_self) with e | hx
      · exact e
      · rcases List.mem_cons.1 ((h y).2 List.mem_cons_self) with e | hy
        · exact e.symm
        · have := (hm.1 x hx).1; have := (hl.1 y hy).1; omega
    subst e
    congr 1
    refine sorted_ext hl.2 hm.2 fun z => ⟨fun hz => ?_, fun hz => ?_⟩
    · rcases List.mem_cons.1 ((h z).1 (List.mem_cons_of_mem _ hz)) with e | hz'
      · subst e; have := (hl.1 z hz).1; omega
      · exact hz'
    · rcases List.mem_cons.1 ((h z).2 (List.mem_cons_of_mem _ hz)) with e | hz'
      · subst e; have := (hm.1 z hz).1; omega
      · exact hz'
/-- a table that a change makes, or makes of one that was there -/
def NewT (l : List Tp) (d : Dp) (id : Int) (x : Tp) : Prop := (d.op = 1 ∧ x = madeT d id) ∨ (d.op ≠ 1 ∧ d.op ≠ 2 ∧ ∃ t ∈ l, t.nm = d.tb ∧ x = tableD t d)
theorem newT_nm {l : List Tp} {d : Dp} {id : Int} {x : Tp} (h : NewT l d id x) : x.nm = d.tb ∨ (d.op = 3 ∧ x.nm = d.to) := by
  rcases h with ⟨_, rfl⟩ | ⟨_, _, t, _, hn, rfl⟩
  · exact .inl rfl
  · show (if d.op = 3 then d.to else t.nm) = d.tb ∨ _
    by_cases e : d.op = 3
    · right; exact ⟨e, by show (if d.op = 3 then d.to else t.nm) = d.to; rw [if_pos e]⟩
    · left; rw [if_neg e, hn]
/-- what is known where a change may be done -/
theorem applyE_0 {l : List Tp} {d : Dp} {id : Int} (h : applyE l d id = 0) : RightL l ∧ plainD d = true ∧ 0 ≤ id ∧
    ((d.op = 1 ∧ createE l d id = 0) ∨ (d.op ≠ 1 ∧ ∃ k t, findT l d.tb = some k ∧ l[k]? = some t ∧ t.nm = d.tb ∧ wrongE l t d = 0)) := by
  unfold applyE at h
  by_cases hc : tf (RightL l) = true ∧ plainD d = true ∧ 0 ≤ id
  · rw [if_pos hc] at h
    refine ⟨tf_iff.1 hc.1, hc.2.1, hc.2.2, ?_⟩
    by_cases e : d.op = 1
    · rw [if_pos e] at h; exact .inl ⟨e, h⟩
    · rw [if_neg e] at h
      right
      refine ⟨e, ?_⟩
      cases hf : findT l d.tb with
      | none => rw [hf] at h; cases h
      | some k =>
        obtain ⟨t, ht, hn⟩ := findT_some hf
        rw [hf] at h
        simp only [Option.bind_some, ht] at h
        exact ⟨k, t, rfl, ht, hn, h⟩
  · rw [if_neg hc] at h; cases h
theorem mem_apply {l : List Tp} {d : Dp} {id : Int} (h : applyE l d id = 0) (x : Tp) : x ∈ applyR l d id ↔ (x ∈ l ∧ x.nm ≠ d.tb) ∨ NewT l d id x := by
  obtain ⟨⟨_, _, hp⟩, _, _, h⟩ := applyE_0 h
  unfold applyR NewT
  rcases h with ⟨e, hc⟩ | ⟨e, k, t, hf, ht, hn, _⟩
  · rw [if_pos e, mem_insT]
    have := (createE_0 hc).2.1
    constructor
    · rintro (h | h)
      · exact .inr (.inl ⟨e, h⟩)
      · exact .inl ⟨h, this x h⟩
    · rintro (h | h | h)
      · exact .inr h.1
      · exact .inl h.2
      · exact absurd e h.1
  · rw [if_neg e, hf]
    have htm := List.mem_of_getElem? ht
    obtain ⟨hkl, hkt⟩ := List.getElem?_eq_some_iff.1 ht
    by_cases e2 : d.op = 2
    · simp only [e2, if_pos]
      rw [List.mem_eraseIdx_iff_getElem?]
      constructor
      · rintro ⟨j, hj, hx⟩
        left
        refine ⟨List.mem_of_getElem? hx, fun q => hj ?_⟩
        obtain ⟨h1, rfl⟩ := List.getElem?_eq_some_iff.1 hx
        rw [List.pairwise_iff_getElem] at hp
        rcases Nat.lt_trichotomy j k with c | c | c
        · exact absurd (q.trans (hkt ▸ hn).symm) (hp j k h1 hkl c).2
        · exact c
        · exact absurd ((hkt ▸ hn).trans q.symm) (hp k j hkl h1 c).2
      · rintro (⟨h1, h2⟩ | ⟨h1, _⟩ | ⟨_, h2, _⟩)
        · obtain ⟨j, hj⟩ := List.mem_iff_getElem?.1 h1
          refine ⟨j, fun c => ?_, hj⟩
          subst c
          rw [ht] at hj; cases hj
          exact h2 hn
        · omega
        · omega
    · simp only [ht, if_neg e2]
      constructor
      · intro hx
        rcases List.mem_iff_getElem?.1 hx with ⟨j, hj⟩
        rw [List.getElem?_set] at hj
        split at hj
        · right; right
          exact ⟨e, e2, t, htm, hn, (Option.some.inj hj).symm⟩
        · rename_i c
          left
          refine ⟨List.mem_of_getElem? hj, fun q => c ?_⟩
          obtain ⟨h1, rfl⟩ := List.getElem?_eq_some_iff.1 hj
          rw [List.pairwise_iff_getElem] at hp
          rcases Nat.lt_trichotomy k j with w | w | w
          · exact absurd ((hkt ▸ hn).trans q.symm) (hp k j hkl h1 w).2
          · exact w
          · exact absurd (q.trans (hkt ▸ hn).symm) (hp j k h1 hkl w).2
      · rintro (⟨h1, h2⟩ | ⟨h1, _⟩ | ⟨_, _, u, hu, hun, rfl⟩)
        · obtain ⟨j, hj⟩ := List.mem_iff_getElem?.1 h1
          refine List.mem_of_getElem? (i := j) ?_
          rw [List.getElem?_set_ne (fun c => h2 ?_)]
          · exact hj
          · subst c
            rw [ht] at hj; cases hj
            exact hn
        · exact absurd h1 e
        · have : u = t := tp_nm hp hu htm (hun.trans hn.symm)
          subst this
          exact List.mem_of_getElem? (i := k) (by rw [List.getElem?_set_self hkl])
/-- the names that a change touches -/
def Touches (d : Dp) (s : ByteArray) : Prop := s = d.tb ∨ (d.op = 3 ∧ s = d.to)
/-- two changes of unlike names, in either order -/
theorem apply_comm {l : List Tp} {a b : Dp} {i j : Int} (h64 : ∀ t ∈ l, W64 t.cols) (h64a : ∀ t ∈ applyR l a i, W64 t.cols) (h64b : ∀ t ∈ applyR l b j, W64 t.cols) (hd : ∀ s, Touches a s → ¬ Touches b s)
    (ha : applyE l a i = 0) (hb : applyE l b j = 0) (hab : applyE (applyR l a i) b j = 0) (hba : applyE (applyR l b j) a i = 0) :
    applyR (applyR l a i) b j = applyR (applyR l b j) a i := by
  have _ := h64
  refine sorted_ext (apply_right h64a hab).2.2 (apply_right h64b hba).2.2 fun x => ?_
  have hne : a.tb ≠ b.tb := fun e => hd a.tb (.inl rfl) (.inl e)
  have new_ne : ∀ {x}, NewT l a i x → x.nm ≠ b.tb := fun {x} h e => by
    rcases newT_nm h with q | ⟨q1, q2⟩
    · exact hne (q.symm.trans e)
    · exact hd a.to (.inr ⟨q1, rfl⟩) (.inl (q2.symm.trans e))
  have new_ne' : ∀ {x}, NewT l b j x → x.nm ≠ a.tb := fun {x} h e => by
    rcases newT_nm h with q | ⟨q1, q2⟩
    · exact hne (e.symm.trans q)
    · exact hd a.tb (.inl rfl) (.inr ⟨q1, e.symm.trans q2⟩)
  have n1 : NewT (applyR l a i) b j x ↔ NewT l b j x := by
    unfold NewT
    constructor
    · rintro (h | ⟨o1, o2, t, ht, hn, rfl⟩)
      · exact .inl h
      · rcases (mem_apply ha t).1 ht with ⟨h1, _⟩ | h1
        · exact .inr ⟨o1, o2, t, h1, hn, rfl⟩
        · exact absurd hn (new_ne h1)
    · rintro (h | ⟨o1, o2, t, ht, hn, rfl⟩)
      · exact .inl h
      · exact .inr ⟨o1, o2, t, (mem_apply ha t).2 (.inl ⟨ht, fun e => hne (e.symm.trans hn)⟩), hn, rfl⟩
  have n2 : NewT (applyR l b j) a i x ↔ NewT l a i x := by
    unfold NewT
    constructor
    · rintro (h | ⟨o1, o2, t, ht, hn, rfl⟩)
      · exact .inl h
      · rcases (mem_apply hb t).1 ht with ⟨h1, _⟩ | h1
        · exact .inr ⟨o1, o2, t, h1, hn, rfl⟩
        · exact absurd hn (new_ne' h1)
    · rintro (h | ⟨o1, o2, t, ht, hn, rfl⟩)
      · exact .inl h
      · exact .inr ⟨o1, o2, t, (mem_apply hb t).2 (.inl ⟨ht, fun e => hne (hn.symm.trans e)⟩), hn, rfl⟩
  rw [mem_apply hab, mem_apply hba, n1, n2, mem_apply ha, mem_apply hb]
  constructor
  · rintro (⟨⟨h1, h2⟩ | h1, h3⟩ | h1)
    · exact .inl ⟨.inl ⟨h1, h3⟩, h2⟩
    · exact .inr h1
    · exact .inl ⟨.inr h1, new_ne' h1⟩
  · rintro (⟨⟨h1, h2⟩ | h1, h3⟩ | h1)
    · exact .inl ⟨.inl ⟨h1, h3⟩, h2⟩
    · exact .inr h1
    · exact .inl ⟨.inr h1, new_ne h1⟩
/-- a table of another name stays -/
theorem apply_stays {l : List Tp} {d : Dp} {id : Int} (h : applyE l d id = 0) {t : Tp} (ht : t ∈ l) (hn : t.nm ≠ d.tb) : t ∈ applyR l d id := (mem_apply h t).2 (.inl ⟨ht, hn⟩)
/-- what a change makes of a table of a number: Next never falls, no column gets a number that none has, and but by DCall no column another name -/
theorem apply_keeps {l : List Tp} {d : Dp} {id : Int} (h : applyE l d id = 0) {t u : Tp} (ht : t ∈ l) (hu : u ∈ applyR l d id) (hid : u.id = t.id) :
    t.nx ≤ u.nx ∧ u.key = t.key ∧ ∀ c ∈ u.cols, c.id < t.nx → ∃ c' ∈ t.cols, c'.id = c.id ∧ (d.op ≠ 6 → c'.nm = c.nm) := by
  obtain ⟨⟨_, _, hp⟩, _, _, hc⟩ := applyE_0 h
  rcases (mem_apply h u).1 hu with ⟨h1, _⟩ | h1
  · have := tp_id hp h1 ht hid
    subst this
    exact ⟨Int.le_refl _, rfl, fun c hc _ => ⟨c, hc, rfl, fun _ => rfl⟩⟩
  · rcases h1 with ⟨e, rfl⟩ | ⟨e1, e2, t', ht', hn', rfl⟩
    · rcases hc with ⟨_, hc⟩ | ⟨e', _⟩
      · exact absurd hid.symm ((createE_0 hc).2.2.2.1 t ht)
      · exact absurd e e'
    · have : t' = t := tp_id hp ht' ht hid
      subst this
      refine ⟨?_, rfl, fun c hc hlt => ?_⟩
      · show t'.nx ≤ (if d.op = 4 then t'.nx + 1 else t'.nx)
        split <;> omega
      · have hc' : c ∈ colsD t' d := hc
        unfold colsD at hc'
        by_cases e4 : d.op = 4
        · rw [if_pos e4] at hc'
          rcases List.mem_append.1 hc' with q | q
          · exact ⟨c, q, rfl, fun _ => rfl⟩
          · obtain rfl : c = ⟨t'.nx, d.co, d.tk, d.tm, d.nl, d.dk, d.dn, d.ds⟩ := by simpa using q
            exact absurd hlt (by show ¬ t'.nx < t'.nx; omega)
        rw [if_neg e4] at hc'
        by_cases e5 : d.op = 5
        · rw [if_pos e5] at hc'
          exact ⟨c, (List.mem_filter.1 hc').1, rfl, fun _ => rfl⟩
        rw [if_neg e5] at hc'
        by_cases e6 : d.op = 6
        · rw [if_pos e6] at hc'
          obtain ⟨y, hy, rfl⟩ := List.mem_map.1 hc'
          exact ⟨y, hy, by split <;> rfl, fun q => absurd e6 q⟩
        rw [if_neg e6] at hc'
        by_cases e7 : d.op = 7
        · rw [if_pos e7] at hc'
          obtain ⟨y, hy, rfl⟩ := List.mem_map.1 hc'
          refine ⟨y, hy, ?_, fun _ => ?_⟩
          · unfold castC; split <;> (try split) <;> rfl
          · unfold castC; split <;> (try split) <;> rfl
        rw [if_neg e7] at hc'
        by_cases e8 : d.op = 8
        · rw [if_pos e8] at hc'
          obtain ⟨y, hy, rfl⟩ := List.mem_map.1 hc'
          exact ⟨y, hy, by split <;> rfl, fun _ => by split <;> rfl⟩
        rw [if_neg e8] at hc'
        exact ⟨c, hc', rfl, fun _ => rfl⟩
/-- numbers stay numbers of 64 bits -/
theorem apply_w64 {l : List Tp} {d : Dp} {id : Int} (h64 : ∀ t ∈ l, W64 t.cols) (hd : -9223372036854775808 ≤ d.dn ∧ d.dn < 9223372036854775808) (hc : W64 d.cols) (h : applyE l d id = 0) : ∀ t ∈ applyR l d id, W64 t.cols := fun t ht => by
  rcases (mem_apply h t).1 ht with ⟨h1, _⟩ | h1
  · exact h64 t h1
  · rcases h1 with ⟨_, rfl⟩ | ⟨_, _, u, hu, _, rfl⟩
    · intro c hcm
      have hcm' : c ∈ d.cols.mapIdx fun i c => ({ c with id := (i : Int) } : Cb) := hcm
      obtain ⟨i, hi⟩ := List.mem_iff_getElem?.1 hcm'
      rw [List.getElem?_mapIdx] at hi
      cases hy : d.cols[i]? with
      | none => rw [hy] at hi; cases hi
      | some y =>
        rw [hy] at hi
        have e := (Option.some.inj hi).symm
        rw [e]
        exact hc y (List.mem_of_getElem? hy)
    · have hu64 := h64 u hu
      intro c hcm
      have hcm' : c ∈ colsD u d := hcm
      unfold colsD at hcm'
      split at hcm'
      · rcases List.mem_append.1 hcm' with q | q
        · exact hu64 c q
        · obtain rfl : c = ⟨u.nx, d.co, d.tk, d.tm, d.nl, d.dk, d.dn, d.ds⟩ := by simpa using q
          exact hd
      split at hcm'
      · exact hu64 c (List.mem_filter.1 hcm').1
      split at hcm'
      · obtain ⟨y, hy, rfl⟩ := List.mem_map.1 hcm'
        have := hu64 y hy
        split <;> exact this
      split at hcm'
      · obtain ⟨y, hy, rfl⟩ := List.mem_map.1 hcm'
        have := hu64 y hy
        split
        · unfold castC
          split
          · exact ⟨by show (-9223372036854775808 : Int) ≤ 0; omega, by show (0 : Int) < 9223372036854775808; omega⟩
          · show -9223372036854775808 ≤ cN d.tk y.dn ∧ cN d.tk y.dn < 9223372036854775808
            unfold cN
            cases numK d.tk
            · exact ⟨by show (-9223372036854775808 : Int) ≤ 0; omega, by show (0 : Int) < 9223372036854775808; omega⟩
            · exact this
        · exact this
      split at hcm'
      · obtain ⟨y, hy, rfl⟩ := List.mem_map.1 hcm'
        have := hu64 y hy
        split
        · exact hd
        · exact this
      · exact hu64 c hcm'
/-- the changes one behind the other: the catalog, how many were done, the error -/
noncomputable def allD (l : List Tp) (first : Int) : Nat → List Dp → List Tp × Nat × Int
  | i, [] => (l, i, 0)
  | i, d :: r => if 9223372036854775807 - (i : Int) < first then ([], i, 2) else if applyE l d (first + i) = 0 then allD (applyR l d (first + i)) first (i + 1) r else ([], i, applyE l d (first + i))
end Go.Proofs.YtlbdbaafmdikcaaGreatDoor

/-
  Rows of structs of the call's own (any size), worlds alike but for some blocks, catalogs of the call's own; a change in memory.
-/
namespace Go.Proofs.YtlbdbaafmdikcaaGreatDoor
open Go.RowKit

/-! ### Worlds alike but for some blocks -/
structure Off (S : Nat → Prop) (w w' : World) : Prop where
  os : w'.os = w.os
  tape : w'.tape = w.tape
  output : w'.output = w.output
  size : w.heap.size ≤ w'.heap.size
  block : ∀ k, k < w.heap.size → ¬ S k → w'.heap[k]? = w.heap[k]?
theorem Off.refl (S : Nat → Prop) (w : World) : Off S w w := ⟨rfl, rfl, rfl, Nat.le_refl _, fun _ _ _ => rfl⟩
theorem Off.trans {S : Nat → Prop} {a b c : World} (h : Off S a b) (k : Off S b c) : Off S a c :=
  ⟨k.os.trans h.os, k.tape.trans h.tape, k.output.trans h.output, Nat.le_trans h.size k.size, fun i hi hn => (k.block i (Nat.lt_of_lt_of_le hi h.size) hn).trans (h.block i hi hn)⟩
theorem Off.of_below {S : Nat → Prop} {w w' : World} (h : Below w.heap.size w w') : Off S w w' := ⟨h.os, h.tape, h.output, h.size, fun k hk _ => h.block k hk⟩
theorem Off.of_grown {w w' : World} {row : Option Nat} (h : w.grownBy w' row) : Off (fun k => row = some k) w w' := ⟨h.os, h.tape, h.output, h.size, fun k hk hn => h.block k hk (fun e => hn e.symm)⟩
theorem Off.mono {S S' : Nat → Prop} {w w' : World} (h : Off S w w') (hs : ∀ k, k < w.heap.size → S k → S' k) : Off S' w w' := ⟨h.os, h.tape, h.output, h.size, fun k hk hn => h.block k hk (fun e => hn (hs k hk e))⟩
theorem Off.below {S : Nat → Prop} {w w' : World} {B : Nat} (h : Off S w w') (hS : ∀ k, k < w.heap.size → S k → B ≤ k) (hB : B ≤ w.heap.size) : Below B w w' :=
  ⟨h.os, h.tape, h.output, h.size, fun k hk => h.block k (Nat.lt_of_lt_of_le hk hB) (fun e => absurd (hS k (Nat.lt_of_lt_of_le hk hB) e) (by omega))⟩
theorem Off.cell {S : Nat → Prop} {w w' : World} (h : Off S w w') {p : Addr} (hp : p.block < w.heap.size) (hn : ¬ S p.block) : w'.cell? p = w.cell? p := World.cell?_of_block (h.block p.block hp hn)
theorem Off.keep {S : Nat → Prop} {w w' : World} (h : Off S w w') {p : Addr} {v : Value} (hv : w.cell? p = some v) (hn : ¬ S p.block) : w'.cell? p = some v := (h.cell (World.block_lt_of_cell? w p hv) hn).trans hv
theorem Off.then {S : Nat → Prop} {a b c : World} (h : Off S a b) (k : Below b.heap.size b c) : Off S a c := h.trans (.of_below k)
theorem Off.behind {S : Nat → Prop} {a b c : World} (h : Below a.heap.size a b) (k : Off S b c) : Off S a c := (Off.of_below h).trans k
theorem Off.set (w : World) (g j : Nat) (v : Value) : Off (fun k => k = g) w (w.setCell ⟨g, j, none⟩ v) :=
  ⟨rfl, rfl, rfl, by simp, fun k _ hk => heap_setCell_other w ⟨g, j, none⟩ k v (fun e => hk (by simp [e]))⟩

/-! ### Rows of structs, flt -/
def flt {α : Type} (f : α → List Value) : List α → List Value
  | [] => []
  | x :: r => f x ++ flt f r
theorem flat_append {α : Type} (f : α → List Value) : ∀ a b : List α, flt f (a ++ b) = flt f a ++ flt f b
  | [], b => rfl
  | x :: r, b => by simp [flt, flat_append f r b]
theorem flat_length {α : Type} {f : α → List Value} {m : Nat} (hm : ∀ x, (f x).length = m) : ∀ l : List α, (flt f l).length = l.length * m
  | [] => by simp [flt]
  | x :: r => by simp [flt, hm, flat_length hm r, Nat.add_mul]; omega
theorem flat_get {α : Type} {f : α → List Value} {m : Nat} (hm : ∀ x, (f x).length = m) : ∀ (l : List α) (j : Nat) (x : α) (i : Nat) (v : Value), l[j]? = some x → (f x)[i]? = some v → (flt f l)[j * m + i]? = some v
  | [], j, x, i, v, h, _ => by simp at h
  | y :: r, 0, x, i, v, h, hv => by
    simp at h; subst h
    have hi := (List.getElem?_eq_some_iff.1 hv).1
    simp only [flt, Nat.zero_mul, Nat.zero_add]
    rw [List.getElem?_append_left hi]; exact hv
  | y :: r, j + 1, x, i, v, h, hv => by
    simp only [flt]
    rw [List.getElem?_append_right (by rw [hm, Nat.add_mul]; omega), hm, show (j + 1) * m + i - m = j * m + i by rw [Nat.add_mul]; omega]
    exact flat_get hm r j x i v (by simpa using h) hv
theorem flat_all {α : Type} {f : α → List Value} {m : Nat} (hm : ∀ x, (f x).length = m) {Q : Nat → Value → Prop} : ∀ (l : List α), (∀ j x i v, l[j]? = some x → (f x)[i]? = some v → Q (j * m + i) v) → ∀ p u, (flt f l)[p]? = some u → Q p u
  | [], _, p, u, h => by simp [flt] at h
  | y :: r, hq, p, u, h => by
    simp only [flt] at h
    by_cases hp : p < m
    · rw [List.getElem?_append_left (by rw [hm]; exact hp)] at h
      have := hq 0 y p u rfl h
      simpa using this
    · rw [List.getElem?_append_right (by rw [hm]; omega), hm] at h
      have := flat_all hm (Q := fun p u => Q (p + m) u) r (fun j x i v h1 h2 => by
        have := hq (j + 1) x i v (by simpa using h1) h2
        rwa [show (j + 1) * m + i = j * m + i + m by rw [Nat.add_mul]; omega] at this) (p - m) u h
      rwa [show p - m + m = p by omega] at this
theorem flat_set {α : Type} {f : α → List Value} {m : Nat} (hm : ∀ x, (f x).length = m) : ∀ (l : List α) (k : Nat) (x y : α) (i : Nat) (v : Value), l[k]? = some x → i < m → f y = (f x).set i v → flt f (l.set k y) = (flt f l).set (k * m + i) v
  | [], k, x, y, i, v, h, _, _ => by simp at h
  | a :: r, 0, x, y, i, v, h, hi, hy => by
    simp at h; subst h
    simp only [List.set_cons_zero, flt, Nat.zero_mul, Nat.zero_add]
    rw [List.set_append_left _ _ (by rw [hm]; exact hi), hy]
  | a :: r, k + 1, x, y, i, v, h, hi, hy => by
    simp only [List.set_cons_succ, flt]
    rw [List.set_append_right _ _ (by rw [hm, Nat.add_mul]; omega), hm, show (k + 1) * m + i - m = k * m + i by rw [Nat.add_mul]; omega]
    rw [flat_set hm r k x y i v (by simpa using h) hi hy]
theorem flt_take {α : Type} {f : α → List Value} {m : Nat} (hm : ∀ x, (f x).length = m) : ∀ (l : List α) (k : Nat), (flt f l).take (k * m) = flt f (l.take k)
  | [], k => by simp [flt]
  | a :: r, 0 => by simp [flt]
  | a :: r, k + 1 => by
    simp only [flt, List.take_succ_cons]
    rw [List.take_append, hm, List.take_of_length_le (by rw [hm, Nat.add_mul]; omega), show (k + 1) * m - m = k * m by rw [Nat.add_mul]; omega, flt_take hm r k]
theorem flat_drop {α : Type} {f : α → List Value} {m : Nat} (hm : ∀ x, (f x).length = m) : ∀ (l : List α) (k : Nat), (flt f l).drop (k * m) = flt f (l.drop k)
  | [], k => by simp [flt]
  | a :: r, 0 => by simp [flt]
  | a :: r, k + 1 => by
    simp only [flt, List.drop_succ_cons]
    rw [List.drop_append, hm, List.drop_eq_nil_of_le (by rw [hm, Nat.add_mul]; omega), show (k + 1) * m - m = k * m by rw [Nat.add_mul]; omega, flat_drop hm r k, List.nil_append]
theorem flat_mem {α : Type} {f : α → List Value} {Q : Value → Prop} (h : ∀ x, ∀ v ∈ f x, Q v) : ∀ (l : List α), ∀ v ∈ flt f l, Q v
  | [], v, hv => by simp [flt] at hv
  | a :: r, v, hv => by
    rcases List.mem_append.1 hv with h1 | h1
    · exact h a v h1
    · exact flat_mem h r v h1
theorem lenC (c : Cb) : (fC c).length = 8 := rfl
theorem lenT (t : Tb) : (fT t).length = 5 := rfl
theorem oneC : ∀ c : Cb, ∀ v ∈ fC c, v.oneCell' = true := fun c v hv => by
  simp [fC] at hv
  rcases hv with h | h | h | h | h | h | h | h <;> (subst h; rfl)
theorem oneT : ∀ t : Tb, ∀ v ∈ fT t, v.oneCell' = true := fun t v hv => by
  simp [fT] at hv
  rcases hv with h | h | h | h | h <;> (subst h; rfl)

/-! ### Rows of the call's own -/
def OwnR {α : Type} (T : TypeId) (m : Nat) (f : α → List Value) (w : World) (base : Nat) (v : Value) (l : List α) : Prop := w.ownsRow base T m v l.length (flt f l)
abbrev OwnC (w : World) (base : Nat) (v : Value) (l : List Cb) : Prop := OwnR 59 8 fC w base v l
abbrev OwnTb (w : World) (base : Nat) (v : Value) (l : List Tb) : Prop := OwnR 45 5 fT w base v l
section
variable {α : Type} {T : TypeId} {m : Nat} {f : α → List Value} {w w' : World} {base : Nat} {v : Value} {l : List α}
theorem OwnR.nil (T : TypeId) (m : Nat) (f : α → List Value) (w : World) (base : Nat) : OwnR T m f w base (.slice none 0 0) [] := World.ownsRow_nil _ _ _ _
theorem OwnR.below (h : OwnR T m f w base v l) (hb : Below w.heap.size w w') : OwnR T m f w' base v l := owns_below h hb
theorem OwnR.lt (h : OwnR T m f w base v l) : ∀ k, v.ownBlock = some k → base ≤ k ∧ k < w.heap.size := World.ownsRow.lt h
theorem OwnR.off {S : Nat → Prop} (h : OwnR T m f w base v l) (hw : Off S w w') (hn : ∀ k, v.ownBlock = some k → ¬ S k) : OwnR T m f w' base v l := by
  refine ⟨h.1, ?_⟩
  rcases h.2 with hn' | ⟨g, cap, cur, rfl, hb, hg, rest⟩
  · exact .inl hn'
  · exact .inr ⟨g, cap, cur, rfl, hb, (hw.block g (Array.getElem?_eq_some_iff.1 hg).1 (hn g rfl)).trans hg, rest⟩
theorem OwnR.mono {base' : Nat} (h : OwnR T m f w base v l) (hb : base' ≤ base) : OwnR T m f w base' v l :=
  ⟨h.1, h.2.imp id fun ⟨g, cap, cur, h1, h2, h3⟩ => ⟨g, cap, cur, h1, Nat.le_trans hb h2, h3⟩⟩
/-- the base raised, where the block allows it -/
theorem OwnR.raise {base' : Nat} (h : OwnR T m f w base v l) (hb : ∀ k, v.ownBlock = some k → base' ≤ k) : OwnR T m f w base' v l :=
  ⟨h.1, h.2.imp id fun ⟨g, cap, cur, h1, _, h3⟩ => ⟨g, cap, cur, h1, hb g (by rw [h1]; rfl), h3⟩⟩
theorem OwnR.form (h : OwnR T m f w base v l) : ∃ A cap, v = .slice A l.length cap ∧ l.length ≤ cap ∧ cap ≤ maxLen ∧ (A = none → cap = 0) := by
  rcases h.2 with ⟨rfl, h0⟩ | ⟨g, cap, cur, rfl, hb, hg, hc, hm, _⟩
  · exact ⟨none, 0, by rw [h0], by omega, by simp, fun _ => rfl⟩
  · exact ⟨_, cap, rfl, hc, hm, fun e => by cases e⟩
theorem OwnR.shape (h : OwnR T m f w base v l) (hl : 0 < l.length) : ∃ g cap, v = .slice (some ⟨g, 0, none⟩) l.length cap ∧ base ≤ g ∧ g < w.heap.size ∧ l.length ≤ cap ∧ cap ≤ maxLen := by
  rcases h.2 with ⟨_, h0⟩ | ⟨g, cap, cur, rfl, hb, hg, hc, hm, _⟩
  · omega
  · exact ⟨g, cap, rfl, hb, (Array.getElem?_eq_some_iff.1 hg).1, hc, hm⟩
theorem OwnR.at {A : Option Addr} {n cap : Nat} (hm : ∀ x, (f x).length = m) (h : OwnR T m f w base (.slice A n cap) l) : RowAt m f w w.heap.size A l := fun hl => by
  obtain ⟨g, cap', e, hb, hg, _⟩ := h.shape hl
  cases e
  refine ⟨g, 0, rfl, hg, fun j x hj i v hv => ?_⟩
  have := World.ownsRow.cells h (g := g) rfl (j * m + i) v (flat_get hm l j x i v hj hv)
  rw [Addr.add_lit] at this
  rw [← this]; congr 2; omega
theorem OwnR.cell {g cap : Nat} (hm : ∀ x, (f x).length = m) (h : OwnR T m f w base (.slice (some ⟨g, 0, none⟩) l.length cap) l) {k i : Nat} {x : α} {u : Value} (hk : l[k]? = some x) (hi : (f x)[i]? = some u) : w.cell? ⟨g, k * m + i, none⟩ = some u := by
  have hkl := (List.getElem?_eq_some_iff.1 hk).1
  have := h.at hm (by omega)
  obtain ⟨b, off, e, _, hc⟩ := this
  cases e
  have := hc k x hk i u hi
  rwa [Nat.zero_add] at this
theorem OwnR.frozen {g cap : Nat} (h : OwnR T m f w base (.slice (some ⟨g, 0, none⟩) l.length cap) l) (j : Nat) : w.frozen? ⟨g, j, none⟩ = false := World.ownsRow.frozenAt h j
/-- one cell stored -/
theorem OwnR.set1 {g cap : Nat} (hm : ∀ x, (f x).length = m) (h : OwnR T m f w base (.slice (some ⟨g, 0, none⟩) l.length cap) l) {k i : Nat} {x y : α} {u : Value} (hk : l[k]? = some x) (hi : i < m) (hy : f y = (f x).set i u) :
    OwnR T m f (w.setCell ⟨g, k * m + i, none⟩ u) base (.slice (some ⟨g, 0, none⟩) l.length cap) (l.set k y) := by
  unfold OwnR
  rw [List.length_set, flat_set hm l k x y i u hk hi hy]
  exact (World.ownsRow.stored h (k * m + i) u).1
theorem run_append_rows {ts : TypeId} {z : Value} {by_ : Nat} (hts : Tryz.prog.underlying ts = some (.slice T)) (hinfo : (Tryz.prog.info? T).map (fun i => (i.zero, i.size, i.bytes)) = some (some z, m, by_)) (hzs : z.cells.size = m) (h0 : 0 < m) (hby : by_ ≤ 128)
    (hm : ∀ x, (f x).length = m) (h1 : ∀ x, ∀ v ∈ f x, v.oneCell' = true) (ty : TypeId) (A : Option Addr) (c : Nat) (vs : List α) (hown : OwnR T m f w base v l) (hA : A = none → c = 0) (hvs : RowAt m f w w.heap.size A vs)
    (hlen : l.length + vs.length ≤ 2000000) (hbase : base ≤ w.heap.size) :
    ∃ v' w', (Builtin.append_ #[ts, ts] ty #[v, .slice A vs.length c]).run Tryz.prog w = .ok v' w' ∧ OwnR T m f w' base v' (l ++ vs) ∧ w.grownBy w' v.ownBlock := by
  obtain ⟨i0, hi, hz0, hz1, hz2⟩ := info_parts hinfo
  cases A with
  | none =>
    have hl : vs = [] := by
      cases vs with
      | nil => rfl
      | cons y r =>
        obtain ⟨_, _, h3, _⟩ := hvs (by simp)
        cases h3
    subst hl
    obtain rfl := hA rfl
    exact ⟨v, w, run_append_owned_none w base ts ty T i0 m hts hi v l.length (flt f l) hown, by rw [List.append_nil]; exact hown, ⟨rfl, rfl, rfl, Nat.le_refl _, fun _ _ _ => rfl⟩⟩
  | some ad =>
    obtain ⟨v', w', hrun, h2, h3, _⟩ := run_append_own (P := Tryz.prog) w base ts ty T i0 z m by_ hts hi hz0 hz1 hz2 hzs h0 v l.length (flt f l) hown ad vs.length c (flt f vs) (flat_length hm vs)
      (flat_all hm vs fun j x i u hj hu => by
        obtain ⟨b, off, h3, _, h5⟩ := hvs (by have := (List.getElem?_eq_some_iff.1 hj).1; omega)
        cases h3
        have := h5 j x hj i u hu
        simp only [Addr.add_lit, ← Nat.add_assoc]
        exact this)
      (flat_mem h1 vs) (by unfold maxLen; omega) (by
        have : (l.length + vs.length) * by_ ≤ 2000000 * 128 := Nat.mul_le_mul hlen hby
        omega) hbase
    refine ⟨v', w', hrun, ?_, h3⟩
    unfold OwnR
    rw [flat_append, List.length_append]
    exact h2
theorem wpList_append_rows {ts : TypeId} {z : Value} {by_ : Nat} (hts : Tryz.prog.underlying ts = some (.slice T)) (hinfo : (Tryz.prog.info? T).map (fun i => (i.zero, i.size, i.bytes)) = some (some z, m, by_)) (hzs : z.cells.size = m) (h0 : 0 < m) (hby : by_ ≤ 128)
    (hm : ∀ x, (f x).length = m) (h1 : ∀ x, ∀ v ∈ f x, v.oneCell' = true) {ops : Array Oper} {rest : List Oper} {o : Oper} {a : Act} {Q : Exit → Act → World → Prop} (hgd : o.guard = none) (s x : Operand)
    (ho : o.op = .call { callee := .builtin .append, args := #[s, x], argTypes := #[ts, ts] })
    (base : Nat) (v : Value) (l : List α) (A : Option Addr) (n c : Nat) (vs : List α)
    (hown : OwnR T m f w base v l) (hs : a.eval s = v) (hx : a.eval x = .slice A n c) (hn : n = vs.length) (hA : A = none → c = 0) (hvs : RowAt m f w w.heap.size A vs) (hlen : l.length + vs.length ≤ 2000000) (hbase : base ≤ w.heap.size)
    (h : ∀ v' w', OwnR T m f w' base v' (l ++ vs) → w.grownBy w' v.ownBlock → wpList Tryz.prog ops Q rest (a.put o.dst v') w') :
    wpList Tryz.prog ops Q (o :: rest) a w := by
  subst hn
  refine wpList_plain hgd fun K hK => ?_
  obtain ⟨v', w', hr, h2, h3⟩ := run_append_rows hts hinfo hzs h0 hby hm h1 o.type A c vs hown hA hvs hlen hbase
  unfold Oper.wp execOp
  simp only [ho, resolve, invoke, builtin, Sem.run_bind, Sem.run_pure, Result.andThen_ok, List.map_toArray, List.map_cons, List.map_nil, hs, hx, hr]
  exact hK _ _ (h v' w' h2 h3)
theorem step_append_rows {ts : TypeId} {z : Value} {by_ : Nat} (hts : Tryz.prog.underlying ts = some (.slice T)) (hinfo : (Tryz.prog.info? T).map (fun i => (i.zero, i.size, i.bytes)) = some (some z, m, by_)) (hzs : z.cells.size = m) (h0 : 0 < m) (hby : by_ ≤ 128)
    (hm : ∀ x, (f x).length = m) (h1 : ∀ x, ∀ v ∈ f x, v.oneCell' = true) {ops : Array Oper} {o : Oper} {a : Act} {K : Act → World → Prop} {Q : Exit → Act → World → Prop} {E : Prop} (hgd : o.guard = none) (s x : Operand)
    (ho : o.op = .call { callee := .builtin .append, args := #[s, x], argTypes := #[ts, ts] })
    (base : Nat) (v : Value) (l : List α) (A : Option Addr) (n c : Nat) (vs : List α)
    (hown : OwnR T m f w base v l) (hs : a.eval s = v) (hx : a.eval x = .slice A n c) (hn : n = vs.length) (hA : A = none → c = 0) (hvs : RowAt m f w w.heap.size A vs) (hlen : l.length + vs.length ≤ 2000000) (hbase : base ≤ w.heap.size)
    (h : ∀ v' w', OwnR T m f w' base v' (l ++ vs) → w.grownBy w' v.ownBlock → K (a.put o.dst v') w') :
    if Region.wanted o (yielded ops a.tmps) = true then Oper.wp Tryz.prog o a w K Q else E := by
  subst hn
  have hw : Region.wanted o (yielded ops a.tmps) = true := by simp [Region.wanted, hgd]
  rw [if_pos hw]
  obtain ⟨v', w', hr, h2, h3⟩ := run_append_rows hts hinfo hzs h0 hby hm h1 o.type A c vs hown hA hvs hlen hbase
  unfold Oper.wp
  simp [execOp, ho, resolve, invoke, builtin, hs, hx, hr, Result.andThen]
  exact h v' w' h2 h3
end
set_option maxRecDepth 100000 in
theorem infoC : (Tryz.prog.info? 59).map (fun i => (i.zero, i.size, i.bytes)) = some (some (.agg #[.int .i64 0, .string ByteArray.empty, .int .i64 0, .int .i64 0, .bool false, .int .i64 0, .int .i64 0, .string ByteArray.empty]), 8, 80) := by kernel_rfl
set_option maxRecDepth 100000 in
theorem infoTb : (Tryz.prog.info? 45).map (fun i => (i.zero, i.size, i.bytes)) = some (some (.agg #[.int .i64 0, .string ByteArray.empty, .int .i64 0, .int .i64 0, .slice none 0 0]), 5, 64) := by kernel_rfl
theorem OwnR.lit0 {α : Type} (T : TypeId) (m : Nat) (f : α → List Value) (w : World) (base : Nat) (hb : base ≤ w.heap.size) : OwnR T m f (w.alloc (.cells #[] T)) base (.slice (some ⟨w.heap.size, 0, none⟩) 0 0) [] :=
  World.ownsRow_lit w #[] 0 hb (by unfold maxLen; omega) (by simp)
/-- a struct in its box: a row of one -/
theorem OwnR.box {α : Type} (T : TypeId) (m : Nat) (f : α → List Value) (hm : ∀ x, (f x).length = m) (w : World) (x : α) : OwnR T m f (w.alloc (.cells (f x).toArray T)) w.heap.size (.slice (some ⟨w.heap.size, 0, none⟩) 1 1) [x] := by
  have := World.ownsRow_lit (base := w.heap.size) (e := T) (size := m) w (f x).toArray 1 (Nat.le_refl _) (by unfold maxLen; omega) (by simp [hm])
  unfold OwnR
  simpa [flt] using this
end Go.Proofs.YtlbdbaafmdikcaaGreatDoor

/-
  Parameters of type api.DDL and []api.DDL, opened; a change in its box; catalogs of the call's own.
-/
namespace Go.Proofs.YtlbdbaafmdikcaaGreatDoor
open Go.RowKit Go.WideShapes

/-- a change in memory -/
structure Db where
  p : Dp
  A : Option Addr
  cap : Nat
def fD (d : Db) : List Value := [.int .i64 d.p.op, .string d.p.tb, .string d.p.co, .string d.p.to, .string d.p.key, .int .i64 d.p.tk, .int .i64 d.p.tm, .bool d.p.nl, .int .i64 d.p.dk, .int .i64 d.p.dn, .string d.p.ds, .slice d.A d.p.cols.length d.cap]
abbrev DV (d : Db) : Value := .agg #[.int .i64 d.p.op, .string d.p.tb, .string d.p.co, .string d.p.to, .string d.p.key, .int .i64 d.p.tk, .int .i64 d.p.tm, .bool d.p.nl, .int .i64 d.p.dk, .int .i64 d.p.dn, .string d.p.ds, .slice d.A d.p.cols.length d.cap]
theorem lenD (d : Db) : (fD d).length = 12 := rfl
instance : Inhabited Db := ⟨⟨⟨0, ByteArray.empty, ByteArray.empty, ByteArray.empty, ByteArray.empty, 0, 0, false, 0, 0, ByteArray.empty, []⟩, none, 0⟩⟩
/-- what of a change lies elsewhere; rows of changes -/
def DdlAt (w : World) (B : Nat) (d : Db) : Prop := ColsAt w B d.A d.p.cols
def DdlsAt (w : World) (B : Nat) (A : Option Addr) (l : List Db) : Prop := RowAt 12 fD w B A l ∧ ∀ d ∈ l, DdlAt w B d
theorem DdlAt.to {w w' : World} {d : Db} (h : DdlAt w w.heap.size d) (hb : Below w.heap.size w w') : DdlAt w' w'.heap.size d := RowAt.to h hb
theorem DdlsAt.to {w w' : World} {A : Option Addr} {l : List Db} (h : DdlsAt w w.heap.size A l) (hb : Below w.heap.size w w') : DdlsAt w' w'.heap.size A l := ⟨h.1.to hb, fun d hd => RowAt.to (h.2 d hd) hb⟩
/-- what is known of a change that comes in -/
def InD (w : World) (d : Db) : Prop := (Lit.int .i64 d.p.op).wf = true ∧ d.p.tb.size ≤ maxLen ∧ d.p.co.size ≤ maxLen ∧ d.p.to.size ≤ maxLen ∧ d.p.key.size ≤ maxLen ∧ (Lit.int .i64 d.p.tk).wf = true ∧ (Lit.int .i64 d.p.tm).wf = true ∧
  (Lit.int .i64 d.p.dk).wf = true ∧ (Lit.int .i64 d.p.dn).wf = true ∧ d.p.ds.size ≤ maxLen ∧ d.p.cols.length ≤ maxLen ∧ d.p.cols.length ≤ d.cap ∧ DdlAt w w.heap.size d ∧ ∀ c ∈ d.p.cols, InC c
set_option maxRecDepth 100000 in
theorem q_ddl : Tryz.prog.cellsOf 28 = 12 := by kernel_rfl
set_option maxRecDepth 100000 in
set_option maxHeartbeats 1000000 in
theorem ddl_of {H : Type} {enc : TypeId × Value → H} {W : World} {sp : Nat → Bool} (fuel : Nat) (cs : List Value) (y : DataW H × List MemPlace)
    (h : DataW.trod enc Tryz.prog W 0 sp true fuel 28 cs = some y) : ∃ d : Db, cs = fD d ∧ InD W d := by
  obtain ⟨xs, n', _, _, hl, hlen, hf⟩ := DataW.trod_struct Tryz.underlying28 h
  rw [q_ddl] at hl
  match xs, hlen with
  | [y0, y1, y2, y3, y4, y5, y6, y7, y8], _ =>
    match cs, hl with
    | [c0, c1, c2, c3, c4, c5, c6, c7, c8, c9, c10, c11], _ =>
      have t0 := hf 0 _ rfl
      have t1 := hf 1 _ rfl
      have t2 := hf 2 _ rfl
      have t3 := hf 3 _ rfl
      have t4 := hf 4 _ rfl
      have t5 := hf 5 _ rfl
      have t6 := hf 6 _ rfl
      have t7 := hf 7 _ rfl
      have t8 := hf 8 _ rfl
      simp [q_int, q_string, q_cols, q_bool, q_type, cellsV] at t0 t1 t2 t3 t4 t5 t6 t7 t8
      obtain ⟨i, r0, _, w0⟩ := DataW.trod_int Tryz.underlying3 t0
      obtain ⟨s1, r1, _, w1⟩ := DataW.trod_string Tryz.underlying9 t1
      obtain ⟨s2, r2, _, w2⟩ := DataW.trod_string Tryz.underlying9 t2
      obtain ⟨s3, r3, _, w3⟩ := DataW.trod_string Tryz.underlying9 t3
      obtain ⟨s4, r4, _, w4⟩ := DataW.trod_string Tryz.underlying9 t4
      obtain ⟨k, m, rfl, rfl, w5, w6⟩ := typ_of t5
      obtain ⟨b, r6, _⟩ := DataW.trod_bool Tryz.underlying4 t6
      obtain ⟨dk, dn, ds, rfl, rfl, rfl, w7, w8, w9⟩ := val_of t7
      obtain ⟨a, len, cap, rfl, l, rfl, hl1, hlc, hl2, hl3⟩ := row_open Tryz.underlying26 q_col col_of (fun a => ⟨_, rfl⟩) t8
      simp at r0 r1 r2 r3 r4 r6
      subst r0 r1 r2 r3 r4 r6
      exact ⟨⟨⟨i, s1, s2, s3, s4, k, m, b, dk, dn, ds, l⟩, a, cap⟩, rfl, w0, w1, w2, w3, w4, w5, w6, w7, w8, w9, hl1, hlc, hl2, hl3⟩
set_option maxRecDepth 100000 in
theorem openDDL {H : Type} {enc : TypeId × Value → H} {W : World} {base : Nat} {v : Value} {d : DataW H} {p : List MemPlace} {sp : Nat → Bool}
    (hv : Value.okWide Tryz.prog W .any base 28 v) (h : DataW.Trod enc Tryz.prog W 0 sp true 28 v d p) : ∃ d : Db, v = DV d ∧ InD W d := by
  obtain ⟨cs, rfl, _⟩ := okWide_struct Tryz.underlying28 hv
  obtain ⟨fuel, hf⟩ := h
  obtain ⟨t, h1, h2⟩ := ddl_of _ _ _ hf
  refine ⟨t, ?_, h2⟩
  simp only [Value.cells] at h1
  show Value.agg cs = Value.agg (fD t).toArray
  rw [← h1]
def DdlsIn (w : World) (A : Option Addr) (cap : Nat) (l : List Db) : Prop := l.length ≤ maxLen ∧ l.length ≤ cap ∧ DdlsAt w w.heap.size A l ∧ ∀ d ∈ l, InD w d
/-! ### Catalogs of the call's own -/
/-- the block of a table's columns -/
abbrev colBk (t : Tb) : Option Nat := (Value.slice t.A t.cols.length t.cap).ownBlock
/-- the row of tables lies from block B on, ahead of Bc; the rows of columns from Bc on, each in a block of its own -/
structure OwnCat (w : World) (B Bc : Nat) (v : Value) (l : List Tb) : Prop where
  row : OwnTb w B v l
  ahead : ∀ k, v.ownBlock = some k → k < Bc
  base : B ≤ Bc
  cols : ∀ t ∈ l, OwnC w Bc (.slice t.A t.cols.length t.cap) t.cols
  apart : ∀ (i j : Nat) s t, l[i]? = some s → l[j]? = some t → i ≠ j → ∀ k, colBk s = some k → colBk t ≠ some k
/-- the blocks of a catalog of the call's own -/
def InCat (v : Value) (l : List Tb) (k : Nat) : Prop := v.ownBlock = some k ∨ ∃ t ∈ l, colBk t = some k
theorem OwnCat.lt {w : World} {B Bc : Nat} {v : Value} {l : List Tb} (h : OwnCat w B Bc v l) : ∀ k, InCat v l k → B ≤ k ∧ k < w.heap.size := fun k hk => by
  rcases hk with hk | ⟨t, ht, hk⟩
  · exact h.row.lt k hk
  · have := (h.cols t ht).lt k hk
    have := h.base
    exact ⟨by omega, by omega⟩
theorem OwnCat.to_off {S : Nat → Prop} {w w' : World} {B Bc : Nat} {v : Value} {l : List Tb} (h : OwnCat w B Bc v l) (hw : Off S w w') (hn : ∀ k, InCat v l k → ¬ S k) : OwnCat w' B Bc v l :=
  ⟨h.row.off hw fun k hk => hn k (.inl hk), h.ahead, h.base, fun t ht => (h.cols t ht).off hw fun k hk => hn k (.inr ⟨t, ht, hk⟩), h.apart⟩
theorem OwnCat.below {w w' : World} {B Bc : Nat} {v : Value} {l : List Tb} (h : OwnCat w B Bc v l) (hb : Below w.heap.size w w') : OwnCat w' B Bc v l := h.to_off (S := fun _ => False) (.of_below hb) fun _ _ e => e
theorem OwnCat.mono' {w : World} {B B' Bc : Nat} {v : Value} {l : List Tb} (h : OwnCat w B Bc v l) (hb : B' ≤ B) : OwnCat w B' Bc v l := ⟨h.row.mono hb, h.ahead, Nat.le_trans hb h.base, h.cols, h.apart⟩
theorem OwnCat.at {w : World} {B Bc : Nat} {A : Option Addr} {n cap : Nat} {l : List Tb} (h : OwnCat w B Bc (.slice A n cap) l) : TabsAt w w.heap.size A l := ⟨h.row.at lenT, fun t ht => (h.cols t ht).at lenC⟩
theorem OwnCat.below_of {w w' : World} {B Bc : Nat} {v : Value} {l : List Tb} (h : OwnCat w B Bc v l) (hw : Off (InCat v l) w w') (hB : B ≤ w.heap.size) : Below B w w' := hw.below (fun k _ hk => (h.lt k hk).1) hB
/-- one table changed, its columns with it: the others stay -/
theorem OwnCat.set {w w' : World} {B Bc B2 g n cap : Nat} {l : List Tb} {k : Nat} {t t' : Tb} (h : OwnCat w B Bc (.slice (some ⟨g, 0, none⟩) n cap) l) (hk : l[k]? = some t)
    (hrow : OwnTb w' B (.slice (some ⟨g, 0, none⟩) n cap) (l.set k t')) (hcol : OwnC w' B2 (.slice t'.A t'.cols.length t'.cap) t'.cols)
    (hw : Off (fun x => x = g ∨ colBk t = some x) w w') : TabsAt w' w'.heap.size (some ⟨g, 0, none⟩) (l.set k t') := by
  refine ⟨hrow.at lenT, fun s hs => ?_⟩
  obtain ⟨j, hj⟩ := List.mem_iff_getElem?.1 hs
  rw [List.getElem?_set] at hj
  split at hj
  · split at hj
    · cases hj; exact hcol.at lenC
    · cases hj
  · rename_i e
    have hsm := List.mem_of_getElem? hj
    refine ((h.cols s hsm).off hw fun x hx e' => ?_).at lenC
    rcases e' with e' | e'
    · subst e'
      have := (h.cols s hsm).lt x hx
      have := h.ahead x rfl
      omega
    · exact h.apart j k s t hj hk (fun q => e q.symm) x hx e'
/-- a table in its box -/
theorem OwnCat.box {w : World} {b : Nat} {t : Tb} (h : OwnTb w b (.slice (some ⟨b, 0, none⟩) 1 1) [t]) (hc : OwnC w (b + 1) (.slice t.A t.cols.length t.cap) t.cols) : OwnCat w b (b + 1) (.slice (some ⟨b, 0, none⟩) 1 1) [t] :=
  ⟨h, fun k hk => by simp [Value.ownBlock] at hk; omega, by omega, fun s hs => by simp at hs; subst hs; exact hc, fun i j s u hi hj hne => by
    cases i with
    | succ i => simp at hi
    | zero =>
      cases j with
      | succ j => simp at hj
      | zero => exact absurd rfl hne⟩
end Go.Proofs.YtlbdbaafmdikcaaGreatDoor

/-
  Contracts of package schema's isNull, RightColumn, checkValue and of the document's own Column.
-/
namespace Go.Proofs.YtlbdbaafmdikcaaGreatDoor
open Go.RowKit

theorem isNull_any (k n : Int) (s : ByteArray) (w : World) : Calls Tryz.prog 124 #[VV k n s] w fun e w' => e = .returned (.bool (nulV k n s)) ∧ Below w.heap.size w w' := by
  have Hv : Hid (nulV k n s = ((k == 0) && ((n == 0) && eqS s ⟨#[]⟩))) := rfl
  have q := fun w k n s => run_eql_V w k n 0 0 s ⟨#[]⟩
  go_enter Tryz.func124, Tryz.ntmps124
  go_wp2_with fail
  go_ret
  exact ⟨by rw [Hv.out]; rfl, by go_grown⟩
theorem below_one' (w : World) (o : Obj) : Below w.heap.size w (w.alloc o) := (Below.refl _ _).alloc (Nat.le_refl _) o
set_option maxRecDepth 100000 in
set_option maxHeartbeats 1600000 in
theorem rcol_any (c : Cb) (w : World) (ht : UTab w) (hw : WfC c) : Calls Tryz.prog 98 #[CV c] w fun e w' => e = .returned (.bool (rightC c)) ∧ Below w.heap.size w w' := by
  have Hw := Lib.hid hw; clear hw
  have HT := Lib.hid (ht.alloc (.cells (fC c).toArray 59)); clear ht
  have HN := Lib.hid (fun w => nright_any c.nm w Hw.out.1)
  have HR := Lib.hid (fun w => tright_any c.tk c.tm w)
  have HF := Lib.hid (fun w ht => tfits_any c.tk c.tm c.dk c.dn c.ds w ht)
  have HB := Lib.hid (BlkN.new w _ (fC c) 59 rfl)
  have hb0 := Lib.hid (below_one' w (.cells (fC c).toArray 59))
  have Hv : Hid (rightC c = (decide (0 ≤ c.id) && (decide (c.id < 200) && (rightN (bs c.nm) && (rightT c.tk c.tm && (nulV c.dk c.dn c.ds || fitT c.tk c.tm c.dk c.dn c.ds)))))) := rfl
  have HU := Lib.hid (fun w => isNull_any c.dk c.dn c.ds w)
  generalize h1 : decide (0 ≤ c.id) = b1 at Hv
  generalize h2 : decide (c.id < 200) = b2 at Hv
  generalize rightN (bs c.nm) = b3 at Hv HN
  generalize rightT c.tk c.tm = b4 at Hv HR
  generalize nulV c.dk c.dn c.ds = b5 at Hv HU
  generalize fitT c.tk c.tm c.dk c.dn c.ds = b6 at Hv HF
  cases b1
  · go_enter Tryz.func98, Tryz.ntmps98
    go_wp2_with fail
    go_ret
    exact ⟨by rw [Hv.out]; rfl, by go_grown⟩
  cases b2
  · go_enter Tryz.func98, Tryz.ntmps98
    go_wp2_with fail
    go_ret
    exact ⟨by rw [Hv.out]; rfl, by go_grown⟩
  cases b3
  · go_enter Tryz.func98, Tryz.ntmps98
    go_wp2_with fail
    refine (HN.out _).mono ?_
    rintro e w1 ⟨rfl, rfl⟩
    go_wp2_with fail
    go_ret
    exact ⟨by rw [Hv.out]; rfl, by go_grown⟩
  cases b4
  · go_enter Tryz.func98, Tryz.ntmps98
    go_wp2_with fail
    refine (HN.out _).mono ?_
    rintro e w1 ⟨rfl, rfl⟩
    go_wp2_with fail
    refine (HR.out _).mono ?_
    rintro e w1 ⟨rfl, hb1⟩
    have Hb1 := Lib.hid (bthen hb0.out hb1)
    have HK1 := Lib.hid (HB.out.below hb1 (by simp))
    have HT1 := Lib.hid (HT.out.below hb1 (Nat.le_refl _))
    clear hb1
    obtain ⟨c0, c1, c2, c3, c4, c5, c6, c7⟩ := HK1.out.col
    go_wp2_with fail
    go_ret
    exact ⟨by rw [Hv.out]; rfl, Hb1.out⟩
  cases b5
  · go_enter Tryz.func98, Tryz.ntmps98
    go_wp2_with fail
    refine (HN.out _).mono ?_
    rintro e w1 ⟨rfl, rfl⟩
    go_wp2_with fail
    refine (HR.out _).mono ?_
    rintro e w1 ⟨rfl, hb1⟩
    have Hb1 := Lib.hid (bthen hb0.out hb1)
    have HK1 := Lib.hid (HB.out.below hb1 (by simp))
    have HT1 := Lib.hid (HT.out.below hb1 (Nat.le_refl _))
    clear hb1
    obtain ⟨c0, c1, c2, c3, c4, c5, c6, c7⟩ := HK1.out.col
    go_wp2_with fail
    refine (HU.out _).mono ?_
    rintro e w2 ⟨rfl, hb2⟩
    have Hb2 := Lib.hid (bthen Hb1.out hb2)
    have HK2 := Lib.hid (HK1.out.below hb2 (by have := World.block_lt_of_cell? _ _ c0; simpa using this))
    have HT2 := Lib.hid (HT1.out.below hb2 (Nat.le_refl _))
    clear hb2 c0 c1 c2 c3 c4 c5 c6 c7
    obtain ⟨c0, c1, c2, c3, c4, c5, c6, c7⟩ := HK2.out.col
    go_wp2_with fail
    refine (HF.out _ HT2.out).mono ?_
    rintro e w3 ⟨rfl, hb3⟩
    have Hb3 := Lib.hid (bthen Hb2.out hb3); clear hb3
    go_wp2_with fail
    go_ret
    exact ⟨by rw [Hv.out]; rfl, Hb3.out⟩
  · go_enter Tryz.func98, Tryz.ntmps98
    go_wp2_with fail
    refine (HN.out _).mono ?_
    rintro e w1 ⟨rfl, rfl⟩
    go_wp2_with fail
    refine (HR.out _).mono ?_
    rintro e w1 ⟨rfl, hb1⟩
    have Hb1 := Lib.hid (bthen hb0.out hb1)
    have HK1 := Lib.hid (HB.out.below hb1 (by simp))
    have HT1 := Lib.hid (HT.out.below hb1 (Nat.le_refl _))
    clear hb1
    obtain ⟨c0, c1, c2, c3, c4, c5, c6, c7⟩ := HK1.out.col
    go_wp2_with fail
    refine (HU.out _).mono ?_
    rintro e w2 ⟨rfl, hb2⟩
    have Hb2 := Lib.hid (bthen Hb1.out hb2)
    have HK2 := Lib.hid (HK1.out.below hb2 (by have := World.block_lt_of_cell? _ _ c0; simpa using this))
    have HT2 := Lib.hid (HT1.out.below hb2 (Nat.le_refl _))
    clear hb2 c0 c1 c2 c3 c4 c5 c6 c7
    obtain ⟨c0, c1, c2, c3, c4, c5, c6, c7⟩ := HK2.out.col
    go_wp2_with fail
    go_ret
    exact ⟨by rw [Hv.out]; rfl, Hb2.out⟩
set_option maxRecDepth 100000 in
set_option maxHeartbeats 1600000 in
theorem rrcol_any (c : Cb) (w : World) (hw : WfC c) : Calls Tryz.prog 42 #[CV c] w fun e w' => e = .returned (.bool (rightC c)) ∧ Below w.heap.size w w' := by
  have Hw := Lib.hid hw; clear hw
  have HN := Lib.hid (fun w => nrright_any c.nm w Hw.out.1)
  have HR := Lib.hid (fun w => trright_any c.tk c.tm w)
  have HF := Lib.hid (fun w => trfits_any c.tk c.tm c.dk c.dn c.ds w Hw.out.2.1 Hw.out.2.2)
  have HB := Lib.hid (BlkN.new w _ (fC c) 59 rfl)
  have hb0 := Lib.hid (below_one' w (.cells (fC c).toArray 59))
  have Hv : Hid (rightC c = (decide (0 ≤ c.id) && (decide (c.id < 200) && (rightN (bs c.nm) && (rightT c.tk c.tm && (nulV c.dk c.dn c.ds || fitT c.tk c.tm c.dk c.dn c.ds)))))) := rfl
  have q : ∀ w, (binOp .eql 25 (VV c.dk c.dn c.ds) (VV 0 0 ⟨#[]⟩)).run Tryz.prog w = .ok (.bool (nulV c.dk c.dn c.ds)) w := fun w => run_eql_V w c.dk c.dn 0 0 c.ds ⟨#[]⟩
  generalize h1 : decide (0 ≤ c.id) = b1 at Hv
  generalize h2 : decide (c.id < 200) = b2 at Hv
  generalize rightN (bs c.nm) = b3 at Hv HN
  generalize rightT c.tk c.tm = b4 at Hv HR
  generalize nulV c.dk c.dn c.ds = b5 at Hv q
  generalize fitT c.tk c.tm c.dk c.dn c.ds = b6 at Hv HF
  cases b1
  · go_enter Tryz.func42, Tryz.ntmps42
    go_wp2_with fail
    go_ret
    exact ⟨by rw [Hv.out]; rfl, by go_grown⟩
  cases b2
  · go_enter Tryz.func42, Tryz.ntmps42
    go_wp2_with fail
    go_ret
    exact ⟨by rw [Hv.out]; rfl, by go_grown⟩
  cases b3
  · go_enter Tryz.func42, Tryz.ntmps42
    go_wp2_with fail
    refine (HN.out _).mono ?_
    rintro e w1 ⟨rfl, rfl⟩
    go_wp2_with fail
    go_ret
    exact ⟨by rw [Hv.out]; rfl, by go_grown⟩
  cases b4
  · go_enter Tryz.func42, Tryz.ntmps42
    go_wp2_with fail
    refine (HN.out _).mono ?_
    rintro e w1 ⟨rfl, rfl⟩
    go_wp2_with fail
    refine (HR.out _).mono ?_
    rintro e w1 ⟨rfl, hb1⟩
    have Hb1 := Lib.hid (bthen hb0.out hb1)
    have HK1 := Lib.hid (HB.out.below hb1 (by simp))
    clear hb1
    obtain ⟨c0, c1, c2, c3, c4, c5, c6, c7⟩ := HK1.out.col
    go_wp2_with fail
    go_ret
    exact ⟨by rw [Hv.out]; rfl, Hb1.out⟩
  cases b5
  · go_enter Tryz.func42, Tryz.ntmps42
    go_wp2_with fail
    refine (HN.out _).mono ?_
    rintro e w1 ⟨rfl, rfl⟩
    go_wp2_with fail
    refine (HR.out _).mono ?_
    rintro e w1 ⟨rfl, hb1⟩
    have Hb1 := Lib.hid (bthen hb0.out hb1)
    have HK1 := Lib.hid (HB.out.below hb1 (by simp))
    clear hb1
    obtain ⟨c0, c1, c2, c3, c4, c5, c6, c7⟩ := HK1.out.col
    go_wp2_with fail
    refine (HF.out _).mono ?_
    rintro e w2 ⟨rfl, hb2⟩
    have Hb2 := Lib.hid (bthen Hb1.out hb2); clear hb2
    go_wp2_with fail
    go_ret
    exact ⟨by rw [Hv.out]; rfl, Hb2.out⟩
  · go_enter Tryz.func42, Tryz.ntmps42
    go_wp2_with fail
    refine (HN.out _).mono ?_
    rintro e w1 ⟨rfl, rfl⟩
    go_wp2_with fail
    refine (HR.out _).mono ?_
    rintro e w1 ⟨rfl, hb1⟩
    have Hb1 := Lib.hid (bthen hb0.out hb1)
    have HK1 := Lib.hid (HB.out.below hb1 (by simp))
    clear hb1
    obtain ⟨c0, c1, c2, c3, c4, c5, c6, c7⟩ := HK1.out.col
    go_wp2_with fail
    go_ret
    exact ⟨by rw [Hv.out]; rfl, Hb1.out⟩
end Go.Proofs.YtlbdbaafmdikcaaGreatDoor

/-
  Contracts of the document's own Find, ById, Col and Key of layer 8.
-/
namespace Go.Proofs.YtlbdbaafmdikcaaGreatDoor
open Go.RowKit

/-- a table, a column, a slice in a new box -/
theorem box_tab (w : World) (t : Tb) : ∃ w0, w.alloc (.cells #[.int .i64 t.id, .string t.nm, .int .i64 t.key, .int .i64 t.nx, .slice t.A t.cols.length t.cap] 45) = w0 ∧ Below w.heap.size w w0 ∧ BlkN w0 w.heap.size (fT t) ∧ w0.heap.size = w.heap.size + 1 :=
  ⟨_, rfl, (Below.refl _ _).alloc (Nat.le_refl _) _, BlkN.new w _ (fT t) _ rfl, by simp⟩
theorem box_col (w : World) (c : Cb) : ∃ w0, w.alloc (.cells #[.int .i64 c.id, .string c.nm, .int .i64 c.tk, .int .i64 c.tm, .bool c.nl, .int .i64 c.dk, .int .i64 c.dn, .string c.ds] 59) = w0 ∧ Below w.heap.size w w0 ∧ BlkN w0 w.heap.size (fC c) ∧ w0.heap.size = w.heap.size + 1 :=
  ⟨_, rfl, (Below.refl _ _).alloc (Nat.le_refl _) _, BlkN.new w _ (fC c) _ rfl, by simp⟩
theorem box_one (w : World) (v : Value) (ty : TypeId) : ∃ w0, w.alloc (.cells #[v] ty) = w0 ∧ Below w.heap.size w w0 ∧ BlkN w0 w.heap.size [v] ∧ w0.heap.size = w.heap.size + 1 :=
  ⟨_, rfl, (Below.refl _ _).alloc (Nat.le_refl _) _, BlkN.new w _ [v] _ rfl, by simp⟩
set_option maxRecDepth 100000 in
set_option maxHeartbeats 800000 in
theorem rfind_any (A : Option Addr) (cp : Nat) (l : List Tb) (s : ByteArray) (w : World) (hA : TabsAt w w.heap.size A l) (hl : l.length ≤ 1000000) :
    Calls Tryz.prog 31 #[.agg #[.slice A l.length cp], .string s] w fun e w' => e = .returned (.int .i64 (idxI (l.findIdx? fun x => eqS x.nm s))) ∧ Below w.heap.size w w' := by
  obtain ⟨w0, hw0, hb0, hB, hs0⟩ := box_one w (.slice A l.length cp) 37
  have Hw0 := Lib.hid hw0; clear hw0
  have Hb0 := Lib.hid hb0
  have HA := Lib.hid (hA.to hb0); clear hA hb0
  have c4 := hB.one
  clear hB
  have Hs0 := Lib.hid hs0; clear hs0
  go_enter Tryz.func31, Tryz.ntmps31
  go_wp2_with fail
  rw [Hw0.out]
  go_loop [5] (fun i => ∃ k : Nat, k ≤ l.length ∧ i = .int .i64 k ∧ Hid (∀ j x, l[j]? = some x → j < k → (eqS x.nm s) = false)) (fun i => l.length - (intOf i).toNat)
  case atStart => exact ⟨0, by omega, rfl, fun j v _ h => absurd h (by omega)⟩
  case round =>
    obtain ⟨k, hk, rfl, hall⟩ := hrel
    by_cases hlt : k < l.length
    · obtain ⟨x, hx⟩ : ∃ x, l[k]? = some x := ⟨l[k], by simp [hlt]⟩
      have Hx := Lib.hid hx
      obtain ⟨b, off, hAe, hbB, d0, d1, d2, d3, d4⟩ := HA.out.get k x hx
      clear hx
      have Hc4 := Lib.hid c4
      rw [hAe] at c4
      cases hp : (eqS x.nm s)
      · have Hall : Hid (∀ j x, l[j]? = some x → j < k + 1 → (eqS x.nm s) = false) := fun j y hj hk => by
          by_cases e : j = k
          · subst e
            rw [Hx.out] at hj
            cases hj
            exact hp
          · exact hall.out j y hj (by omega)
        go_wp2_with fail
        go_round
        case rel => exact ⟨k + 1, by omega, by go_num, Hall.out⟩
        case measure => simp [intOf]; omega
      · have Hfi : Hid ((l.findIdx? fun x => eqS x.nm s) = some k) := find_at hall.out Hx.out hp
        go_wp2_with fail
        go_ret
        exact ⟨by rw [Hfi.out]; rfl, Hb0.out⟩
    · have Hfi : Hid ((l.findIdx? fun x => eqS x.nm s) = none) := find_no fun j x hj => hall.out j x hj (by have := (List.getElem?_eq_some_iff.1 hj).1; omega)
      go_wp2_with fail
      go_ret
      exact ⟨by rw [Hfi.out]; rfl, Hb0.out⟩
set_option maxRecDepth 100000 in
set_option maxHeartbeats 800000 in
theorem rcolI_any (t : Tb) (s : ByteArray) (w : World) (hA : TabAt w w.heap.size t) (hl : t.cols.length ≤ 1000000) :
    Calls Tryz.prog 43 #[TV t, .string s] w fun e w' => e = .returned (.int .i64 (idxI (colI t s))) ∧ Below w.heap.size w w' := by
  obtain ⟨w0, hw0, hb0, hB, hs0⟩ := box_tab w t
  have Hw0 := Lib.hid hw0; clear hw0
  have Hb0 := Lib.hid hb0
  have HA := Lib.hid (RowAt.to hA hb0); clear hA hb0
  obtain ⟨c0, c1, c2, c3, c4⟩ := hB.tab
  clear hB
  have Hs0 := Lib.hid hs0; clear hs0
  go_enter Tryz.func43, Tryz.ntmps43
  go_wp2_with fail
  rw [Hw0.out]
  go_loop [5] (fun i => ∃ k : Nat, k ≤ t.cols.length ∧ i = .int .i64 k ∧ Hid (∀ j x, t.cols[j]? = some x → j < k → (eqS x.nm s) = false)) (fun i => t.cols.length - (intOf i).toNat)
  case atStart => exact ⟨0, by omega, rfl, fun j v _ h => absurd h (by omega)⟩
  case round =>
    obtain ⟨k, hk, rfl, hall⟩ := hrel
    by_cases hlt : k < t.cols.length
    · obtain ⟨x, hx⟩ : ∃ x, t.cols[k]? = some x := ⟨t.cols[k], by simp [hlt]⟩
      have Hx := Lib.hid hx
      obtain ⟨b, off, hAe, hbB, d0, d1, d2, d3, d4, d5, d6, d7⟩ := ColsAt.get HA.out k x hx
      clear hx
      have Hc4 := Lib.hid c4
      rw [hAe] at c4
      cases hp : (eqS x.nm s)
      · have Hall : Hid (∀ j x, t.cols[j]? = some x → j < k + 1 → (eqS x.nm s) = false) := fun j y hj hk => by
          by_cases e : j = k
          · subst e
            rw [Hx.out] at hj
            cases hj
            exact hp
          · exact hall.out j y hj (by omega)
        go_wp2_with fail
        go_round
        case rel => exact ⟨k + 1, by omega, by go_num, Hall.out⟩
        case measure => simp [intOf]; omega
      · have Hfi : Hid ((colI t s) = some k) := find_at hall.out Hx.out hp
        go_wp2_with fail
        go_ret
        exact ⟨by rw [Hfi.out]; rfl, Hb0.out⟩
    · have Hfi : Hid ((colI t s) = none) := find_no fun j x hj => hall.out j x hj (by have := (List.getElem?_eq_some_iff.1 hj).1; omega)
      go_wp2_with fail
      go_ret
      exact ⟨by rw [Hfi.out]; rfl, Hb0.out⟩
end Go.Proofs.YtlbdbaafmdikcaaGreatDoor

/-
  Contracts of package ddl's small functions.
-/
namespace Go.Proofs.YtlbdbaafmdikcaaGreatDoor
open Go.RowKit

set_option maxRecDepth 100000 in
theorem dnull_any (k n : Int) (s : ByteArray) (w : World) : Calls Tryz.prog 76 #[VV k n s] w fun e w' => e = .returned (.bool (nulV k n s)) ∧ Below w.heap.size w w' := by
  have Hv : Hid (nulV k n s = ((k == 0) && ((n == 0) && eqS s ⟨#[]⟩))) := rfl
  have q := fun w k n s => run_eql_V w k n 0 0 s ⟨#[]⟩
  go_enter Tryz.func76, Tryz.ntmps76
  go_wp2_with fail
  go_ret
  exact ⟨by rw [Hv.out]; rfl, by go_grown⟩
theorem box_tv (w : World) (tk tm k n : Int) (s : ByteArray) : ∃ w0, (w.alloc (.cells #[.int .i64 tk, .int .i64 tm] 23)).alloc (.cells #[.int .i64 k, .int .i64 n, .string s] 25) = w0 ∧ Below w.heap.size w w0 ∧ w0.heap.size = w.heap.size + 2 ∧
    w0.cell? ⟨w.heap.size, 0, none⟩ = some (.int .i64 tk) ∧ w0.cell? ⟨w.heap.size, 1, none⟩ = some (.int .i64 tm) ∧ w0.cell? ⟨w.heap.size + 1, 0, none⟩ = some (.int .i64 k) ∧ w0.cell? ⟨w.heap.size + 1, 1, none⟩ = some (.int .i64 n) ∧ w0.cell? ⟨w.heap.size + 1, 2, none⟩ = some (.string s) :=
  ⟨_, rfl, below_two w _ _, by simp, keep_alloc (by simp) _, keep_alloc (by simp) _, by simp, by simp, by simp⟩
set_option maxRecDepth 100000 in
set_option maxHeartbeats 1000000 in
theorem rdef_any (tk tm k n : Int) (s : ByteArray) (w : World) (ht : UTab w) : Calls Tryz.prog 108 #[TT tk tm, VV k n s] w fun e w' => e = .returned (.bool (presetD tk tm k n s)) ∧ Below w.heap.size w w' := by
  obtain ⟨w0, hw0, hb0, hs0, d0, d1, d2, d3, d4⟩ := box_tv w tk tm k n s
  have Hw0 := Lib.hid hw0; clear hw0
  have Hb0 := Lib.hid hb0
  have Hs0 := Lib.hid hs0; clear hs0
  have HT := Lib.hid (ht.below hb0 (Nat.le_refl _)); clear ht hb0
  have Hd : Hid (w0.cell? ⟨w.heap.size, 0, none⟩ = some (.int .i64 tk) ∧ w0.cell? ⟨w.heap.size, 1, none⟩ = some (.int .i64 tm) ∧ w0.cell? ⟨w.heap.size + 1, 0, none⟩ = some (.int .i64 k) ∧ w0.cell? ⟨w.heap.size + 1, 1, none⟩ = some (.int .i64 n) ∧ w0.cell? ⟨w.heap.size + 1, 2, none⟩ = some (.string s)) := ⟨d0, d1, d2, d3, d4⟩
  clear d0 d1 d2 d3 d4
  have HN := Lib.hid (dnull_any k n s w0)
  rw [← Hw0.out] at HN
  have Hv : Hid (presetD tk tm k n s = (nulV k n s || fitT tk tm k n s)) := rfl
  have HF := Lib.hid (fun w ht => tfits_any tk tm k n s w ht)
  generalize nulV k n s = b1 at Hv HN
  generalize fitT tk tm k n s = b2 at Hv HF
  cases b1
  · go_enter Tryz.func108, Tryz.ntmps108
    go_wp2_with fail
    refine HN.out.mono ?_
    rintro e w1 ⟨rfl, hb1⟩
    rw [Hw0.out] at hb1
    have Hb1 := Lib.hid (bthen Hb0.out hb1)
    have HF1 := Lib.hid (HF.out w1 (HT.out.below hb1 (Nat.le_refl _)))
    have e0 := (hb1.cell (p := ⟨w.heap.size, 0, none⟩) (by have := Hs0.out; show w.heap.size < _; omega)).trans Hd.out.1
    have e1 := (hb1.cell (p := ⟨w.heap.size, 1, none⟩) (by have := Hs0.out; show w.heap.size < _; omega)).trans Hd.out.2.1
    have e2 := (hb1.cell (p := ⟨w.heap.size + 1, 0, none⟩) (by have := Hs0.out; show w.heap.size + 1 < _; omega)).trans Hd.out.2.2.1
    have e3 := (hb1.cell (p := ⟨w.heap.size + 1, 1, none⟩) (by have := Hs0.out; show w.heap.size + 1 < _; omega)).trans Hd.out.2.2.2.1
    have e4 := (hb1.cell (p := ⟨w.heap.size + 1, 2, none⟩) (by have := Hs0.out; show w.heap.size + 1 < _; omega)).trans Hd.out.2.2.2.2
    clear hb1
    go_wp2_with fail
    refine HF1.out.mono ?_
    rintro e w2 ⟨rfl, hb2⟩
    have Hb2 := Lib.hid (bthen Hb1.out hb2); clear hb2
    go_wp2_with fail
    go_ret
    exact ⟨by rw [Hv.out]; rfl, Hb2.out⟩
  · go_enter Tryz.func108, Tryz.ntmps108
    go_wp2_with fail
    refine HN.out.mono ?_
    rintro e w1 ⟨rfl, hb1⟩
    rw [Hw0.out] at hb1
    have Hb1 := Lib.hid (bthen Hb0.out hb1); clear hb1
    go_wp2_with fail
    go_ret
    exact ⟨by rw [Hv.out]; rfl, Hb1.out⟩
theorem fst_bool (o : Option Nat) : ∃ i : Int, fstV o = .tuple #[.int .i64 i, .bool o.isSome] := by
  cases o with
  | none => exact ⟨0, rfl⟩
  | some k => exact ⟨k, rfl⟩
set_option maxRecDepth 100000 in
theorem hastab_any (A : Option Addr) (cp : Nat) (l : List Tb) (s : ByteArray) (w : World) (hA : TabsAt w w.heap.size A l) (hl : l.length ≤ 1000000) :
    Calls Tryz.prog 69 #[.agg #[.slice A l.length cp], .string s] w fun e w' => e = .returned (.bool (l.findIdx? fun x => eqS x.nm s).isSome) ∧ Below w.heap.size w w' := by
  have hb0 := Lib.hid (below_one w (.cells #[.slice A l.length cp] 37))
  have HC := Lib.hid (sfind_any A cp l s _ (hA.to hb0.out) hl); clear hA
  obtain ⟨i, hi⟩ := fst_bool (l.findIdx? fun x => eqS x.nm s)
  rw [hi] at HC; clear hi
  generalize (l.findIdx? fun x => eqS x.nm s).isSome = q at HC ⊢
  go_enter Tryz.func69, Tryz.ntmps69
  go_wp2_with fail
  refine HC.out.mono ?_
  rintro e w1 ⟨rfl, hb1⟩
  have Hb1 := Lib.hid (bthen hb0.out hb1); clear hb1
  go_wp2_with fail
  go_ret
  exact ⟨rfl, Hb1.out⟩
set_option maxRecDepth 100000 in
theorem hasid_any (A : Option Addr) (cp : Nat) (l : List Tb) (s : Int) (w : World) (hA : TabsAt w w.heap.size A l) (hl : l.length ≤ 1000000) :
    Calls Tryz.prog 70 #[.agg #[.slice A l.length cp], .int .i64 s] w fun e w' => e = .returned (.bool (l.findIdx? fun x => x.id == s).isSome) ∧ Below w.heap.size w w' := by
  have hb0 := Lib.hid (below_one w (.cells #[.slice A l.length cp] 37))
  have HC := Lib.hid (sbyId_any A cp l s _ (hA.to hb0.out) hl); clear hA
  obtain ⟨i, hi⟩ := fst_bool (l.findIdx? fun x => x.id == s)
  rw [hi] at HC; clear hi
  generalize (l.findIdx? fun x => x.id == s).isSome = q at HC ⊢
  go_enter Tryz.func70, Tryz.ntmps70
  go_wp2_with fail
  refine HC.out.mono ?_
  rintro e w1 ⟨rfl, hb1⟩
  have Hb1 := Lib.hid (bthen hb0.out hb1); clear hb1
  go_wp2_with fail
  go_ret
  exact ⟨rfl, Hb1.out⟩
set_option maxRecDepth 100000 in
theorem hascol_any (t : Tb) (s : ByteArray) (w : World) (hA : TabAt w w.heap.size t) (hl : t.cols.length ≤ 1000000) :
    Calls Tryz.prog 106 #[TV t, .string s] w fun e w' => e = .returned (.bool (colI t s).isSome) ∧ Below w.heap.size w w' := by
  have hb0 := Lib.hid (below_one w (.cells (fT t).toArray 45))
  have HC := Lib.hid (scol_any t s _ (RowAt.to hA hb0.out) hl); clear hA
  obtain ⟨i, hi⟩ := fst_bool (colI t s)
  rw [hi] at HC; clear hi
  go_enter Tryz.func106, Tryz.ntmps106
  go_wp2_with fail
  refine HC.out.mono ?_
  rintro e w1 ⟨rfl, hb1⟩
  have Hb1 := Lib.hid (bthen hb0.out hb1); clear hb1
  go_wp2_with fail
  go_ret
  exact ⟨rfl, Hb1.out⟩
theorem countP_take {α : Type} (p : α → Bool) (l : List α) (k : Nat) (x : α) (hx : l[k]? = some x) : (l.take (k + 1)).countP p = (l.take k).countP p + (if p x then 1 else 0) := by
  rw [List.take_add_one, hx, List.countP_append]
  simp [List.countP_cons]
set_option maxRecDepth 100000 in
set_option maxHeartbeats 1000000 in
theorem before_any (A : Option Addr) (cp : Nat) (l : List Tb) (id : Int) (w : World) (hA : TabsAt w w.heap.size A l) (hl : l.length ≤ 1000000) :
    Calls Tryz.prog 73 #[.agg #[.slice A l.length cp], .int .i64 id] w fun e w' => e = .returned (.int .i64 ((l.countP fun t => decide (t.id < id) : Nat) : Int)) ∧ Below w.heap.size w w' := by
  obtain ⟨w0, hw0, hb0, hB, hs0⟩ := box_one w (.slice A l.length cp) 37
  have Hw0 := Lib.hid hw0; clear hw0
  have Hb0 := Lib.hid hb0
  have HA := Lib.hid (hA.to hb0); clear hA hb0
  have c0 := hB.one; clear hB
  clear hs0
  go_enter Tryz.func73, Tryz.ntmps73
  go_wp2_with fail
  rw [Hw0.out]
  clear c0
  go_loopw [5, 11] (fun v i wr => ∃ k : Nat, k ≤ l.length ∧ i = .int .i64 k ∧ v = .int .i64 (((l.take k).countP fun t => decide (t.id < id) : Nat) : Int) ∧ Hid (Below w0.heap.size w0 wr)) (fun _ i _ => l.length - (intOf i).toNat)
  case atStart => exact ⟨0, by omega, rfl, by simp, Below.refl _ _⟩
  case round =>
    obtain ⟨k, hk, rfl, rfl, hb⟩ := hrel
    by_cases hlt : k < l.length
    · obtain ⟨t, ht⟩ : ∃ t, l[k]? = some t := ⟨l[k], by simp [hlt]⟩
      have Hn := Lib.hid (countP_take (fun t : Tb => decide (t.id < id)) l k t ht)
      have hle : (l.take k).countP (fun t : Tb => decide (t.id < id)) ≤ k := Nat.le_trans List.countP_le_length (by rw [List.length_take]; omega)
      obtain ⟨b, off, rfl, hbB, d0, d1, d2, d3, d4⟩ := TabsAt.get (HA.out.below hb.out) k t ht
      obtain ⟨w2, hw2, hb2, hX, hs2⟩ := box_tab wr t
      have Hw2 := Lib.hid hw2; clear hw2
      have Hb2 := Lib.hid (bthen hb.out hb2); clear hb2 hX hs2 ht
      generalize (l.take k).countP (fun t : Tb => decide (t.id < id)) = q at Hn hle ⊢
      by_cases hc : t.id < id
      · have hd : decide (t.id < id) = true := by simp [hc]
        simp only [hd, if_true] at Hn
        clear hd
        go_wp2_with fail
        rw [Hw2.out]
        go_round
        case rel => exact ⟨k + 1, by omega, by go_num, by rw [Hn.out]; go_num, Hb2.out⟩
        case measure => simp [intOf]; omega
      · have hd : decide (t.id < id) = false := by simp [hc]
        simp only [hd] at Hn
        clear hd
        go_wp2_with fail
        rw [Hw2.out]
        go_round
        case rel => exact ⟨k + 1, by omega, by go_num, by rw [Hn.out]; go_num, Hb2.out⟩
        case measure => simp [intOf]; omega
    · have hlt' : decide ((k : Int) < (l.length : Int)) = false := by simp; omega
      obtain rfl : k = l.length := by omega
      have He : Hid (l.take l.length = l) := List.take_length
      have Hb3 := Lib.hid (bthen Hb0.out hb.out)
      generalize hq : (l.take l.length).countP (fun t : Tb => decide (t.id < id)) = q
      rw [He.out] at hq
      have Hq := Lib.hid hq
      clear hq
      go_wp2_with fail
      go_ret
      exact ⟨by rw [Hq.out]; rfl, Hb3.out⟩
end Go.Proofs.YtlbdbaafmdikcaaGreatDoor
