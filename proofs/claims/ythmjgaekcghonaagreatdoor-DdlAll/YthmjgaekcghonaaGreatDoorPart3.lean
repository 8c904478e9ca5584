/-
  Texts that the proof needs, one behind the other: FixMath, NameOrdC, ValOrdC, SkMath, SkReadMath, ValOpen, SkRows, SchMath, SchRows, SchOwn, SkBitMath, SkPutC, SkOfC, SchFirstC, SchFindC.
-/
import Derived.StillTailTactics
import Derived.Lib.SmallJoins
import Derived.ProofKit
import Derived.OpenShut
import Derived.ShutString
import Derived.ChangeOld
import Derived.Deep.Slices
import Derived.Deep.Strs
import Derived.ChangeArms
import Derived.Laws.OwnMore
import Derived.Shelf.Abstract
import Derived.Test.YthmjgaekcghonaaGreatDoorPart1
import Derived.Test.YthmjgaekcghonaaGreatDoorPart2

/-
  Numbers as so many bytes, the lowest first, plainly. It speaks of no program.
-/
namespace Go.Proofs.YthmjgaekcghonaaGreatDoor
open Go.RowKit

/-- k bytes of n -/
def le : Nat → Nat → List UInt8
  | 0, _ => []
  | k + 1, n => UInt8.ofNat (n % 256) :: le k (n / 256)
/-- the number of bytes -/
def unle : List UInt8 → Nat
  | [] => 0
  | c :: r => c.toNat + 256 * unle r
/-- the number of just k bytes, and the error -/
def get (l : List UInt8) (k : Nat) : Nat × Nat := if l.length < k then (0, 4) else if k < l.length then (0, 6) else (unle l, 0)

theorem le_length : ∀ k n, (le k n).length = k
  | 0, _ => rfl
  | k + 1, n => by simp [le, le_length k]
theorem le_snoc : ∀ k n, le (k + 1) n = le k n ++ [UInt8.ofNat (n / 256 ^ k % 256)]
  | 0, n => by simp [le]
  | k + 1, n => by
    rw [le, le_snoc k (n / 256), le, List.cons_append, Nat.div_div_eq_div_mul, Nat.pow_succ, Nat.mul_comm 256]
theorem unle_le : ∀ k n, n < 256 ^ k → unle (le k n) = n
  | 0, n, h => by simp at h; simp [le, unle, h]
  | k + 1, n, h => by
    have h2 : n / 256 < 256 ^ k := by rw [Nat.div_lt_iff_lt_mul (by omega)]; rw [Nat.pow_succ] at h; exact h
    rw [le, unle, unle_le k (n / 256) h2, UInt8.toNat_ofNat']
    omega
theorem le_unle : ∀ l : List UInt8, le l.length (unle l) = l
  | [] => rfl
  | c :: r => by
    have hc := c.toNat_lt
    rw [List.length_cons, le, unle, show (c.toNat + 256 * unle r) / 256 = unle r by omega, le_unle r, show (c.toNat + 256 * unle r) % 256 = c.toNat by omega]
    simp
theorem unle_lt : ∀ l : List UInt8, unle l < 256 ^ l.length
  | [] => by simp [unle]
  | c :: r => by
    have hc := c.toNat_lt
    have := unle_lt r
    rw [unle, List.length_cons, Nat.pow_succ]; omega
theorem unle_snoc : ∀ (l : List UInt8) (c : UInt8), unle (l ++ [c]) = unle l + c.toNat * 256 ^ l.length
  | [], c => by simp [unle]
  | d :: l, c => by
    simp only [List.cons_append, unle, unle_snoc l c, List.length_cons, Nat.pow_succ, Nat.mul_add]
    rw [Nat.add_assoc, ← Nat.mul_assoc, Nat.mul_comm 256 c.toNat, Nat.mul_assoc, Nat.mul_comm 256 (256 ^ l.length)]
theorem unle_drop {l : List UInt8} {k : Nat} {c : UInt8} (h : l[k]? = some c) : unle (l.drop k) = c.toNat + 256 * unle (l.drop (k + 1)) := by
  obtain ⟨hk, rfl⟩ := List.getElem?_eq_some_iff.1 h
  rw [List.drop_eq_getElem_cons hk, unle]
theorem unle_take {l : List UInt8} {k : Nat} {c : UInt8} (h : l[k]? = some c) : unle (l.take (k + 1)) = unle (l.take k) + c.toNat * 256 ^ k := by
  obtain ⟨hk, _⟩ := List.getElem?_eq_some_iff.1 h
  rw [take_at h, unle_snoc, List.length_take, Nat.min_eq_left (by omega)]
theorem unle_take_lt {l : List UInt8} {k : Nat} (hk : k ≤ l.length) : unle (l.take k) < 256 ^ k := by
  have := unle_lt (l.take k)
  rw [List.length_take, Nat.min_eq_left hk] at this
  exact this
theorem unle_drop_le (l : List UInt8) (k : Nat) : unle (l.drop k) ≤ unle l := by
  induction k generalizing l with
  | zero => simp
  | succ k ih =>
    cases l with
    | nil => simp
    | cons c r => rw [List.drop_succ_cons, unle]; have := ih r; omega

theorem pow8 (k : Nat) : 2 ^ (8 * k) = 256 ^ k := by rw [Nat.pow_mul]
theorem pow8i (k : Nat) : (2 : Int) ^ (8 * k) = ((256 ^ k : Nat) : Int) := by rw [← pow8, Int.natCast_pow]; rfl
/-- one byte more, as the program puts it -/
theorem or_step (x c k : Nat) (hc : c < 256) (hk : k ≤ 7) (hx : x < 256 ^ k) :
    bits BinOp.or IntKind.u64 (x : Int) (IntKind.u64.wrap ((c : Int) * 2 ^ (8 * k))) = ((x + c * 256 ^ k : Nat) : Int) := by
  have h1 : (256 : Nat) ^ k ≤ 256 ^ 7 := Nat.pow_le_pow_right (by omega) hk
  have h2 : c * 256 ^ k ≤ 255 * 256 ^ 7 := Nat.mul_le_mul (by omega) h1
  simp at h1 h2
  have e4 : (c : Int) * ((256 ^ k : Nat) : Int) = ((c * 256 ^ k : Nat) : Int) := (Int.natCast_mul _ _).symm
  have e5 : IntKind.u64.wrap ((c * 256 ^ k : Nat) : Int) = ((c * 256 ^ k : Nat) : Int) := by rw [IntKind.wrap_u64]; omega
  rw [pow8i, e4, e5, u64_or_nat _ _ (by omega) (by omega), Nat.or_comm, nat_join (8 * k) _ _ (by rw [pow8]; exact Nat.mul_mod_left _ _) (by rw [pow8]; exact hx), Nat.add_comm]
/-- one byte, as the program cuts it off -/
theorem shr_byte (n k : Nat) : ((n : Int) / 2 ^ (8 * k)) % 256 = ((UInt8.ofNat (n / 256 ^ k % 256)).toNat : Int) := by
  rw [pow8i, UInt8.toNat_ofNat', ← Int.natCast_ediv]; omega
theorem le_part (size k n : Nat) (h : k < size) : (le k n ++ List.replicate (size - k) 0).set k (UInt8.ofNat (n / 256 ^ k % 256)) = le (k + 1) n ++ List.replicate (size - (k + 1)) 0 := by
  obtain ⟨m, hm⟩ : ∃ m, size - k = m + 1 := ⟨size - k - 1, by omega⟩
  rw [hm, List.replicate_succ, List.set_append_right _ _ (by rw [le_length]; omega), le_length, Nat.sub_self, List.set_cons_zero, le_snoc, List.append_assoc, show size - (k + 1) = m by omega]
  rfl
end Go.Proofs.YthmjgaekcghonaaGreatDoor

/-
  Contracts of package name's Order and of the document's own.
-/
namespace Go.Proofs.YthmjgaekcghonaaGreatDoor
open Go.RowKit

/-- draws alone lie between -/
def Drew (w w' : World) : Prop := ∃ q, w' = w.drewN q
theorem Drew.refl (w : World) : Drew w w := ⟨0, rfl⟩
theorem Drew.more {w w' : World} (h : Drew w w') (q : Nat) : Drew w (w'.drewN q) := by
  obtain ⟨n, rfl⟩ := h
  exact ⟨n + q, by simp⟩
theorem Drew.one {w w' : World} (h : Drew w w') : Drew w w'.drew := h.more 1
theorem Drew.trans {a b c : World} (h : Drew a b) (h2 : Drew b c) : Drew a c := by
  obtain ⟨q, rfl⟩ := h2
  exact h.more q
theorem Drew.below {w w' : World} (h : Drew w w') (B : Nat) : Below B w w' := by
  obtain ⟨q, rfl⟩ := h
  exact ⟨rfl, rfl, rfl, Nat.le_refl _, fun _ _ => rfl⟩
theorem Drew.size {w w' : World} (h : Drew w w') : w'.heap.size = w.heap.size := by
  obtain ⟨q, rfl⟩ := h; rfl
theorem Drew.cell {w w' : World} (h : Drew w w') (p : Addr) : w'.cell? p = w.cell? p := by
  obtain ⟨q, rfl⟩ := h; rfl

end Go.Proofs.YthmjgaekcghonaaGreatDoor

/-
  Contracts of package value's Order (with the library's cmp.Compare and cmp.Or at int and int64) and of the document's own.
-/
namespace Go.Proofs.YthmjgaekcghonaaGreatDoor
open Go.RowKit

def cmpI (x y : Int) : Int := if x < y then -1 else if y < x then 1 else 0
def or3 (x y z : Int) : Int := if x ≠ 0 then x else if y ≠ 0 then y else z
/-- the order of values -/
def ordV (k n : Int) (l : List UInt8) (k' n' : Int) (l' : List UInt8) : Int := or3 (cmpI k k') (cmpI n n') (ordN l l')
theorem cmpI_neg (x y : Int) : cmpI y x = -cmpI x y := by
  unfold cmpI
  by_cases h1 : x < y
  · rw [if_neg (by omega), if_pos h1, if_pos h1]; rfl
  · by_cases h2 : y < x
    · rw [if_pos h2, if_neg h1, if_pos h2]
    · rw [if_neg h2, if_neg h1, if_neg h1, if_neg h2]; rfl
theorem cmpI_zero {x y : Int} : cmpI x y = 0 ↔ x = y := by
  unfold cmpI
  by_cases h1 : x < y
  · rw [if_pos h1]; omega
  · by_cases h2 : y < x
    · rw [if_neg h1, if_pos h2]; omega
    · rw [if_neg h1, if_neg h2]; omega
theorem ordN_neg : ∀ l m : List UInt8, ordN m l = -ordN l m
  | [], [] => rfl
  | [], _ :: _ => rfl
  | _ :: _, [] => rfl
  | a :: r, b :: s => by
    simp only [ordN]
    by_cases h1 : a.toNat < b.toNat
    · rw [if_neg (by omega), if_pos h1, if_pos h1]; rfl
    · by_cases h2 : b.toNat < a.toNat
      · rw [if_pos h2, if_neg h1, if_pos h2]
      · rw [if_neg h2, if_neg h1, if_neg h1, if_neg h2]; exact ordN_neg r s
theorem ordV_neg (k n : Int) (l : List UInt8) (k' n' : Int) (l' : List UInt8) : ordV k' n' l' k n l = -ordV k n l k' n' l' := by
  unfold ordV or3
  rw [cmpI_neg k k', cmpI_neg n n', ordN_neg l l']
  repeat' split
  all_goals omega
theorem ordV_zero (k n : Int) (l : List UInt8) (k' n' : Int) (l' : List UInt8) : ordV k n l k' n' l' = 0 ↔ k = k' ∧ n = n' ∧ l = l' := by
  unfold ordV or3
  by_cases h1 : cmpI k k' = 0
  · rw [h1, if_neg (by simp)]
    have e1 := cmpI_zero.1 h1
    by_cases h2 : cmpI n n' = 0
    · rw [h2, if_neg (by simp)]
      have e2 := cmpI_zero.1 h2
      constructor
      · intro h; exact ⟨e1, e2, ordN_zero h⟩
      · rintro ⟨_, _, rfl⟩; exact ordN_self _
    · rw [if_pos h2]
      constructor
      · intro h; exact absurd h h2
      · rintro ⟨_, h, _⟩; exact absurd (cmpI_zero.2 h) h2
  · rw [if_pos h1]
    constructor
    · intro h; exact absurd h h1
    · rintro ⟨h, _⟩; exact absurd (cmpI_zero.2 h) h1

end Go.Proofs.YthmjgaekcghonaaGreatDoor

/-
  The mathematics of keys (layer 7): the key of a value, its order, no key begins with another one.
-/
namespace Go.Proofs.YthmjgaekcghonaaGreatDoor

theorem cmpI_lt {a b : Int} (h : a < b) : cmpI a b = -1 := if_pos h
theorem cmpI_gt {a b : Int} (h : b < a) : cmpI a b = 1 := by unfold cmpI; rw [if_neg (by omega), if_pos h]
theorem cmpI_add (a b c : Int) : cmpI (a + c) (b + c) = cmpI a b := by
  unfold cmpI
  by_cases h1 : a < b
  · rw [if_pos h1, if_pos (by omega)]
  · by_cases h2 : b < a
    · rw [if_neg h1, if_pos h2, if_neg (by omega), if_pos (by omega)]
    · rw [if_neg h1, if_neg h2, if_neg (by omega), if_neg (by omega)]
/-- the most significant byte first -/
def be (w n : Nat) : List UInt8 := (le w n).reverse
theorem be_succ (w n : Nat) : be (w + 1) n = UInt8.ofNat (n / 256 ^ w % 256) :: be w n := by
  unfold be
  rw [le_snoc, List.reverse_append]; rfl
theorem be_length (w n : Nat) : (be w n).length = w := by unfold be; rw [List.length_reverse, le_length]
theorem be_ord (w : Nat) : ∀ (a b : Nat) (s t : List UInt8), ordN (be w a ++ s) (be w b ++ t) = if a % 256 ^ w = b % 256 ^ w then ordN s t else cmpI ((a % 256 ^ w : Nat) : Int) ((b % 256 ^ w : Nat) : Int) := by
  induction w with
  | zero =>
    intro a b s t
    rw [if_pos (by simp [Nat.mod_one])]; rfl
  | succ w ih =>
    intro a b s t
    rw [be_succ, be_succ, List.cons_append, List.cons_append, ordN, ih a b s t]
    have ha := Nat.mod_pow_succ (x := a) (b := 256) (k := w)
    have hb := Nat.mod_pow_succ (x := b) (b := 256) (k := w)
    have pa : a % 256 ^ w < 256 ^ w := Nat.mod_lt _ (Nat.pow_pos (by omega))
    have pb : b % 256 ^ w < 256 ^ w := Nat.mod_lt _ (Nat.pow_pos (by omega))
    have qa : a / 256 ^ w % 256 < 256 := Nat.mod_lt _ (by omega)
    have qb : b / 256 ^ w % 256 < 256 := Nat.mod_lt _ (by omega)
    have ta : (UInt8.ofNat (a / 256 ^ w % 256)).toNat = a / 256 ^ w % 256 := by simp
    have tb : (UInt8.ofNat (b / 256 ^ w % 256)).toNat = b / 256 ^ w % 256 := by simp
    rw [ta, tb, ha, hb]
    clear ta tb ha hb ih
    generalize a / 256 ^ w % 256 = x at *
    generalize b / 256 ^ w % 256 = y at *
    generalize a % 256 ^ w = u at *
    generalize b % 256 ^ w = v at *
    generalize 256 ^ w = P at *
    by_cases h1 : x < y
    · have : P * (x + 1) ≤ P * y := Nat.mul_le_mul_left P (by omega)
      rw [Nat.mul_add, Nat.mul_one] at this
      rw [if_pos h1, if_neg (by omega), cmpI_lt (by omega)]
    · by_cases h2 : y < x
      · have : P * (y + 1) ≤ P * x := Nat.mul_le_mul_left P (by omega)
        rw [Nat.mul_add, Nat.mul_one] at this
        rw [if_neg h1, if_pos h2, if_neg (by omega), cmpI_gt (by omega)]
      · obtain rfl : x = y := by omega
        rw [if_neg h1, if_neg h2]
        by_cases h3 : u = v
        · rw [if_pos h3, if_pos (by omega)]
        · rw [if_neg h3, if_neg (by omega), Int.natCast_add, Int.natCast_add, cmpI_add]

/-- bytes with each 0 marked -/
def esc : List UInt8 → List UInt8
  | [] => []
  | c :: r => if c = 0 then 0 :: 255 :: esc r else c :: esc r
theorem esc_ord : ∀ (l m s t : List UInt8), ordN (esc l ++ (0 :: 0 :: s)) (esc m ++ (0 :: 0 :: t)) = if l = m then ordN s t else ordN l m
  | [], [], s, t => by simp [esc, ordN]
  | [], b :: m, s, t => by
    rw [if_neg (by simp)]
    unfold esc
    by_cases hb : b = 0
    · subst hb
      simp [ordN]
    · have : 0 < b.toNat := by
        have : b.toNat ≠ 0 := fun h => hb (UInt8.toNat_inj.1 h)
        omega
      simp [hb, ordN, this]
  | a :: l, [], s, t => by
    rw [if_neg (by simp)]
    unfold esc
    by_cases ha : a = 0
    · subst ha
      simp [ordN]
    · have : 0 < a.toNat := by
        have : a.toNat ≠ 0 := fun h => ha (UInt8.toNat_inj.1 h)
        omega
      simp [ha, ordN, this]
  | a :: l, b :: m, s, t => by
    have ih := esc_ord l m s t
    by_cases hab : a = b
    · subst hab
      have e : (a :: l = a :: m) = (l = m) := by simp
      by_cases ha : a = 0
      · subst ha
        simp only [esc, if_true, List.cons_append, ordN, Nat.lt_irrefl, if_false, ih, List.cons.injEq, true_and]
      · simp only [esc, if_neg ha, List.cons_append, ordN, Nat.lt_irrefl, if_false, ih, List.cons.injEq, true_and]
    · have hn : a.toNat ≠ b.toNat := fun h => hab (UInt8.toNat_inj.1 h)
      rw [if_neg (by simp [hab])]
      have head : ∀ (c : UInt8) (r : List UInt8), ∃ q, esc (c :: r) = c :: q := fun c r => by
        unfold esc
        by_cases hc : c = 0
        · exact ⟨_, by rw [if_pos hc, hc]⟩
        · exact ⟨_, by rw [if_neg hc]⟩
      obtain ⟨p, hp⟩ := head a l
      obtain ⟨q, hq⟩ := head b m
      rw [hp, hq, List.cons_append, List.cons_append, ordN, ordN]
      by_cases h1 : a.toNat < b.toNat
      · rw [if_pos h1, if_pos h1]
      · rw [if_neg h1, if_neg h1, if_pos (by omega), if_pos (by omega)]

/-- the key of a value -/
def key (k n : Int) (l : List UInt8) : List UInt8 :=
  if k = 1 then 1 :: be 4 (n + 2147483648).toNat else if k = 2 then 2 :: be 8 (n + 9223372036854775808).toNat else if k = 3 then 3 :: (esc l ++ [0, 0]) else if k = 4 then 4 :: (esc l ++ [0, 0]) else [0]
theorem key_1 (n : Int) (l : List UInt8) : key 1 n l = 1 :: be 4 (n + 2147483648).toNat := rfl
theorem key_2 (n : Int) (l : List UInt8) : key 2 n l = 2 :: be 8 (n + 9223372036854775808).toNat := rfl
theorem key_3 (n : Int) (l : List UInt8) : key 3 n l = 3 :: (esc l ++ [0, 0]) := rfl
theorem key_4 (n : Int) (l : List UInt8) : key 4 n l = 4 :: (esc l ++ [0, 0]) := rfl
theorem key_0 (n : Int) (l : List UInt8) : key 0 n l = [0] := rfl
/-- a right value: its shape -/
theorem rightV_form {k n : Int} {l : List UInt8} (h : rightV k n l = true) : (k = 0 ∧ n = 0 ∧ l = []) ∨ (k = 1 ∧ -2147483648 ≤ n ∧ n < 2147483648 ∧ l = []) ∨ (k = 2 ∧ l = []) ∨ (k = 3 ∧ n = 0 ∧ l.length ≤ 120 ∧ (sg l).isSome = true) ∨ (k = 4 ∧ n = 0 ∧ l.length ≤ 120) := by
  rcases rightV_cases k n l with ⟨rfl, hv⟩ | ⟨rfl, hv⟩ | ⟨rfl, hv⟩ | ⟨rfl, hv⟩ | ⟨rfl, hv⟩ | ⟨_, _, _, _, _, hv⟩
  · rw [hv] at h; simp at h; exact .inl ⟨rfl, h.1, h.2⟩
  · rw [hv, fitsB_eq n 32 (by omega)] at h
    simp at h
    exact .inr (.inl ⟨rfl, h.1.1, h.1.2, h.2⟩)
  · rw [hv] at h; simp at h; exact .inr (.inr (.inl ⟨rfl, h⟩))
  · rw [hv] at h; simp at h; exact .inr (.inr (.inr (.inl ⟨rfl, h.1.1, h.1.2, h.2⟩)))
  · rw [hv] at h; simp at h; exact .inr (.inr (.inr (.inr ⟨rfl, h.1, h.2⟩)))
  · rw [hv] at h; cases h
theorem key_head {k n : Int} {l : List UInt8} (h : rightV k n l = true) : ∃ r, key k n l = UInt8.ofNat k.toNat :: r ∧ 0 ≤ k ∧ k ≤ 4 := by
  rcases rightV_form h with ⟨rfl, _⟩ | ⟨rfl, _⟩ | ⟨rfl, _⟩ | ⟨rfl, _⟩ | ⟨rfl, _⟩
  all_goals exact ⟨_, rfl, by decide, by decide⟩
theorem ordV_kind {k k' n n' : Int} {l l' : List UInt8} (h : k ≠ k') : ordV k n l k' n' l' = cmpI k k' := by
  unfold ordV or3
  rw [if_pos]
  unfold cmpI
  by_cases h1 : k < k'
  · rw [if_pos h1]; decide
  · rw [if_neg h1, if_pos (by omega)]; decide
theorem ordV_num {k n n' : Int} {l l' : List UInt8} (h : n ≠ n') : ordV k n l k n' l' = cmpI n n' := by
  have hk : cmpI k k = 0 := by unfold cmpI; rw [if_neg (by omega), if_neg (by omega)]
  unfold ordV or3
  rw [hk, if_neg (by simp), if_pos]
  unfold cmpI
  by_cases h1 : n < n'
  · rw [if_pos h1]; decide
  · rw [if_neg h1, if_pos (by omega)]; decide
theorem ordV_str {k n : Int} {l l' : List UInt8} : ordV k n l k n l' = ordN l l' := by
  have hk : ∀ x : Int, cmpI x x = 0 := fun x => by unfold cmpI; rw [if_neg (by omega), if_neg (by omega)]
  unfold ordV or3
  rw [hk, hk, if_neg (by simp), if_neg (by simp)]
/-- keys stand as their values do, whatever stands behind them -/
theorem key_ord {k n k' n' : Int} {l l' : List UInt8} (h : rightV k n l = true) (h' : rightV k' n' l' = true) (b1 : -9223372036854775808 ≤ n) (b2 : n < 9223372036854775808) (b3 : -9223372036854775808 ≤ n') (b4 : n' < 9223372036854775808) (s t : List UInt8) :
    ordN (key k n l ++ s) (key k' n' l' ++ t) = if k = k' ∧ n = n' ∧ l = l' then ordN s t else ordV k n l k' n' l' := by
  by_cases hk : k = k'
  · subst hk
    have skip : ∀ (c : UInt8) (p q : List UInt8), ordN (c :: p) (c :: q) = ordN p q := fun c p q => by rw [ordN, if_neg (by omega), if_neg (by omega)]
    rcases rightV_form h with ⟨rfl, rfl, rfl⟩ | ⟨rfl, p1, p2, rfl⟩ | ⟨rfl, rfl⟩ | ⟨rfl, rfl, _⟩ | ⟨rfl, rfl, _⟩
    · rcases rightV_form h' with ⟨_, rfl, rfl⟩ | ⟨q, _⟩ | ⟨q, _⟩ | ⟨q, _⟩ | ⟨q, _⟩
      · rw [if_pos ⟨rfl, rfl, rfl⟩]
        exact skip _ _ _
      all_goals omega
    · rcases rightV_form h' with ⟨q, _⟩ | ⟨_, q1, q2, rfl⟩ | ⟨q, _⟩ | ⟨q, _⟩ | ⟨q, _⟩
      · omega
      · rw [key_1, key_1, List.cons_append, List.cons_append, skip, be_ord]
        rw [Nat.mod_eq_of_lt (by omega), Nat.mod_eq_of_lt (by omega)]
        by_cases hn : n = n'
        · subst hn; rw [if_pos rfl, if_pos ⟨rfl, rfl, rfl⟩]
        · rw [if_neg (by omega), if_neg (fun e => hn e.2.1), ordV_num hn, ← cmpI_add n n' 2147483648, Int.toNat_of_nonneg (by omega), Int.toNat_of_nonneg (by omega)]
      all_goals omega
    · rcases rightV_form h' with ⟨q, _⟩ | ⟨q, _⟩ | ⟨_, rfl⟩ | ⟨q, _⟩ | ⟨q, _⟩
      · omega
      · omega
      · rw [key_2, key_2, List.cons_append, List.cons_append, skip, be_ord]
        rw [Nat.mod_eq_of_lt (by omega), Nat.mod_eq_of_lt (by omega)]
        by_cases hn : n = n'
        · subst hn; rw [if_pos rfl, if_pos ⟨rfl, rfl, rfl⟩]
        · rw [if_neg (by omega), if_neg (fun e => hn e.2.1), ordV_num hn, ← cmpI_add n n' 9223372036854775808, Int.toNat_of_nonneg (by omega), Int.toNat_of_nonneg (by omega)]
      all_goals omega
    · rcases rightV_form h' with ⟨q, _⟩ | ⟨q, _⟩ | ⟨q, _⟩ | ⟨_, rfl, _⟩ | ⟨q, _⟩
      · omega
      · omega
      · omega
      · rw [key_3, key_3, List.cons_append, List.cons_append, skip, List.append_assoc, List.append_assoc]
        show ordN (esc l ++ (0 :: 0 :: s)) (esc l' ++ (0 :: 0 :: t)) = _
        rw [esc_ord, ordV_str]
        by_cases hl : l = l'
        · rw [if_pos hl, if_pos ⟨rfl, rfl, hl⟩]
        · rw [if_neg hl, if_neg (fun e => hl e.2.2)]
      · omega
    · rcases rightV_form h' with ⟨q, _⟩ | ⟨q, _⟩ | ⟨q, _⟩ | ⟨q, _⟩ | ⟨_, rfl, _⟩
      · omega
      · omega
      · omega
      · omega
      · rw [key_4, key_4, List.cons_append, List.cons_append, skip, List.append_assoc, List.append_assoc]
        show ordN (esc l ++ (0 :: 0 :: s)) (esc l' ++ (0 :: 0 :: t)) = _
        rw [esc_ord, ordV_str]
        by_cases hl : l = l'
        · rw [if_pos hl, if_pos ⟨rfl, rfl, hl⟩]
        · rw [if_neg hl, if_neg (fun e => hl e.2.2)]
  · rw [if_neg (fun e => hk e.1), ordV_kind hk]
    obtain ⟨p, hp, a1, a2⟩ := key_head h
    obtain ⟨q, hq, c1, c2⟩ := key_head h'
    rw [hp, hq, List.cons_append, List.cons_append, ordN]
    have e1 : (UInt8.ofNat k.toNat).toNat = k.toNat := by simp; omega
    have e2 : (UInt8.ofNat k'.toNat).toNat = k'.toNat := by simp; omega
    rw [e1, e2]
    by_cases h1 : k < k'
    · rw [cmpI_lt h1, if_pos (by omega)]
    · rw [cmpI_gt (by omega), if_neg (by omega), if_pos (by omega)]
theorem ordV_none {k n k' n' : Int} {l l' : List UInt8} (h : ordV k n l k' n' l' = 0) : k = k' ∧ n = n' ∧ l = l' := by
  have cz : ∀ {a b : Int}, a ≠ b → cmpI a b ≠ 0 := fun {a b} hne => by
    unfold cmpI
    by_cases h1 : a < b
    · rw [if_pos h1]; decide
    · rw [if_neg h1, if_pos (by omega)]; decide
  by_cases hk : k = k'
  · subst hk
    by_cases hn : n = n'
    · subst hn
      rw [ordV_str] at h
      exact ⟨rfl, rfl, ordN_zero h⟩
    · rw [ordV_num hn] at h
      exact absurd h (cz hn)
  · rw [ordV_kind hk] at h
    exact absurd h (cz hk)
/-- a key says its value, whatever stands behind it -/
theorem key_inj {k n k' n' : Int} {l l' : List UInt8} (h : rightV k n l = true) (h' : rightV k' n' l' = true) (b1 : -9223372036854775808 ≤ n) (b2 : n < 9223372036854775808) (b3 : -9223372036854775808 ≤ n') (b4 : n' < 9223372036854775808) {s t : List UInt8}
    (e : key k n l ++ s = key k' n' l' ++ t) : k = k' ∧ n = n' ∧ l = l' := by
  have ho := key_ord h h' b1 b2 b3 b4 s t
  rw [e, ordN_self] at ho
  by_cases hv : k = k' ∧ n = n' ∧ l = l'
  · exact hv
  · rw [if_neg hv] at ho
    exact absurd (ordV_none ho.symm) hv
end Go.Proofs.YthmjgaekcghonaaGreatDoor

/-
  The mathematics of keys (layer 7): several keys, reading back, the next text.
-/
namespace Go.Proofs.YthmjgaekcghonaaGreatDoor

abbrev Vl := Int × Int × List UInt8
def rightL (v : Vl) : Bool := rightV v.1 v.2.1 v.2.2
def in64 (v : Vl) : Prop := -9223372036854775808 ≤ v.2.1 ∧ v.2.1 < 9223372036854775808
def keyL (v : Vl) : List UInt8 := key v.1 v.2.1 v.2.2
/-- several keys, one behind the other -/
def ofK (l : List Vl) : List UInt8 := l.flatMap keyL
theorem ofK_cons (v : Vl) (l : List Vl) : ofK (v :: l) = keyL v ++ ofK l := rfl
theorem ofK_snoc (l : List Vl) (v : Vl) : ofK (l ++ [v]) = ofK l ++ keyL v := by simp [ofK]
/-- the order of several values -/
def ordL : List Vl → List Vl → Int
  | [], [] => 0
  | [], _ :: _ => -1
  | _ :: _, [] => 1
  | a :: r, b :: s => if ordV a.1 a.2.1 a.2.2 b.1 b.2.1 b.2.2 ≠ 0 then ordV a.1 a.2.1 a.2.2 b.1 b.2.1 b.2.2 else ordL r s
theorem of_ord : ∀ (a b : List Vl), (∀ v ∈ a, rightL v = true ∧ in64 v) → (∀ v ∈ b, rightL v = true ∧ in64 v) → ordN (ofK a) (ofK b) = ordL a b
  | [], [], _, _ => rfl
  | [], v :: b, _, hb => by
    obtain ⟨r, hr, _⟩ := key_head (hb v (by simp)).1
    rw [ofK_cons, show keyL v = _ from hr]; rfl
  | v :: a, [], ha, _ => by
    obtain ⟨r, hr, _⟩ := key_head (ha v (by simp)).1
    rw [ofK_cons, show keyL v = _ from hr]; rfl
  | v :: a, w :: b, ha, hb => by
    have ih := of_ord a b (fun x hx => ha x (by simp [hx])) (fun x hx => hb x (by simp [hx]))
    obtain ⟨v1, v2, v3⟩ := ha v (by simp)
    obtain ⟨w1, w2, w3⟩ := hb w (by simp)
    rw [ofK_cons, ofK_cons, ordL]
    unfold keyL
    rw [key_ord v1 w1 v2 v3 w2 w3, ih]
    by_cases h : v.1 = w.1 ∧ v.2.1 = w.2.1 ∧ v.2.2 = w.2.2
    · rw [if_pos h, if_neg]
      rw [h.1, h.2.1, h.2.2, ordV_str, ordN_self]; simp
    · rw [if_neg h, if_pos (fun e => h (ordV_none e))]

/-- the bytes up to their end: the bytes, how many were taken, 0 or the error -/
def scan : List UInt8 → List UInt8 × Nat × Nat
  | [] => ([], 0, 4)
  | [c] => if c = 0 then ([], 0, 4) else ([c], 1, 4)
  | c :: d :: r => if c = 0 then (if d = 255 then (0 :: (scan r).1, (scan r).2.1 + 2, (scan r).2.2) else if d = 0 then ([], 2, 0) else ([], 0, 5)) else (c :: (scan (d :: r)).1, (scan (d :: r)).2.1 + 1, (scan (d :: r)).2.2)
theorem scan_nil : scan [] = ([], 0, 4) := by simp [scan]
theorem scan_cons {c : UInt8} (r : List UInt8) (h : c ≠ 0) : scan (c :: r) = (c :: (scan r).1, (scan r).2.1 + 1, (scan r).2.2) := by
  cases r with
  | nil => simp [scan, h]
  | cons d r => simp [scan, h]
theorem scan_mark (r : List UInt8) : scan (0 :: 255 :: r) = (0 :: (scan r).1, (scan r).2.1 + 2, (scan r).2.2) := by simp [scan]
theorem scan_end (r : List UInt8) : scan (0 :: 0 :: r) = ([], 2, 0) := by simp [scan]
theorem scan_cut : scan [0] = ([], 0, 4) := by simp [scan]
theorem scan_bad {d : UInt8} (r : List UInt8) (h1 : d ≠ 255) (h2 : d ≠ 0) : scan (0 :: d :: r) = ([], 0, 5) := by simp [scan, h1, h2]
theorem scan_esc : ∀ (l s : List UInt8), scan (esc l ++ (0 :: 0 :: s)) = (l, (esc l).length + 2, 0)
  | [], s => by rw [esc]; exact scan_end s
  | c :: r, s => by
    have ih := scan_esc r s
    by_cases hc : c = 0
    · subst hc
      have e : esc (0 :: r) = 0 :: 255 :: esc r := by simp [esc]
      rw [e, List.cons_append, List.cons_append, scan_mark, ih]
      simp
    · have e : esc (c :: r) = c :: esc r := by simp [esc, hc]
      rw [e, List.cons_append, scan_cons _ hc, ih]
      simp
theorem scan_len : ∀ l : List UInt8, (scan l).1.length ≤ l.length
  | [] => by simp [scan]
  | [c] => by
    by_cases h : c = 0 <;> simp [scan, h]
  | c :: d :: r => by
    have i1 := scan_len r
    have i2 := scan_len (d :: r)
    by_cases h : c = 0
    · by_cases h1 : d = 255
      · simp [scan, h, h1]; omega
      · by_cases h2 : d = 0 <;> simp [scan, h, h1, h2]
    · rw [scan_cons _ h]
      simp at i2 ⊢; omega
theorem scan_le : ∀ l : List UInt8, (scan l).2.1 ≤ l.length
  | [] => by simp [scan]
  | [c] => by
    by_cases h : c = 0 <;> simp [scan, h]
  | c :: d :: r => by
    have i1 := scan_le r
    have i2 := scan_le (d :: r)
    by_cases h : c = 0
    · by_cases h1 : d = 255
      · simp [scan, h, h1]; omega
      · by_cases h2 : d = 0 <;> simp [scan, h, h1, h2]
    · rw [scan_cons _ h]
      simp at i2 ⊢; omega
def unbe (l : List UInt8) : Nat := unle l.reverse
theorem unbe_be (w n : Nat) (h : n < 256 ^ w) : unbe (be w n) = n := by
  unfold unbe be
  rw [List.reverse_reverse]; exact unle_le w n h
def noV : Vl := (0, 0, [])
/-- the value of the key at the beginning, its length, 0 or the error -/
def readK2 (c : Nat) (q : List UInt8 × Nat × Nat) : Vl × Nat × Nat :=
  if q.2.2 = 0 then (if c = 3 ∧ (sg q.1).isSome = false then (noV, 0, 5) else if 120 < q.1.length then (noV, 0, 3) else (((c : Int), 0, q.1), q.2.1 + 1, 0)) else (noV, 0, q.2.2)
def readK : List UInt8 → Vl × Nat × Nat
  | [] => (noV, 0, 4)
  | c :: r => if 4 < c.toNat then (noV, 0, 5) else if c.toNat = 0 then (noV, 1, 0)
    else if c.toNat = 1 then (if r.length < 4 then (noV, 0, 4) else ((1, (unbe (r.take 4) : Int) - 2147483648, []), 5, 0))
    else if c.toNat = 2 then (if r.length < 8 then (noV, 0, 4) else ((2, (unbe (r.take 8) : Int) - 9223372036854775808, []), 9, 0))
    else readK2 c.toNat (scan r)
/-- what is made of a value is read as it is, whatever stands behind it -/
theorem read_key {v : Vl} (h : rightL v = true) (hb : in64 v) (s : List UInt8) : readK (keyL v ++ s) = (v, (keyL v).length, 0) := by
  obtain ⟨k, n, l⟩ := v
  obtain ⟨b1, b2⟩ := hb
  simp only at b1 b2
  have h' : rightV k n l = true := h
  rcases rightV_form h' with ⟨rfl, rfl, rfl⟩ | ⟨rfl, p1, p2, rfl⟩ | ⟨rfl, rfl⟩ | ⟨rfl, rfl, hl, hs⟩ | ⟨rfl, rfl, hl⟩
  · rfl
  · show readK (1 :: be 4 (n + 2147483648).toNat ++ s) = ((1, n, []), (1 :: be 4 (n + 2147483648).toNat).length, 0)
    have hlen := be_length 4 (n + 2147483648).toNat
    rw [List.cons_append]
    simp only [readK]
    rw [if_neg (by decide), if_neg (by decide), if_pos (by decide), if_neg (by simp [hlen]), List.take_append_of_le_length (by omega), List.take_of_length_le (by omega), unbe_be _ _ (by omega), List.length_cons, hlen]
    rw [Int.toNat_of_nonneg (by omega), show n + 2147483648 - 2147483648 = n by omega]
  · show readK (2 :: be 8 (n + 9223372036854775808).toNat ++ s) = ((2, n, []), (2 :: be 8 (n + 9223372036854775808).toNat).length, 0)
    have hlen := be_length 8 (n + 9223372036854775808).toNat
    rw [List.cons_append]
    simp only [readK]
    rw [if_neg (by decide), if_neg (by decide), if_neg (by decide), if_pos (by decide), if_neg (by simp [hlen]), List.take_append_of_le_length (by omega), List.take_of_length_le (by omega), unbe_be _ _ (by omega), List.length_cons, hlen]
    rw [Int.toNat_of_nonneg (by omega), show n + 9223372036854775808 - 9223372036854775808 = n by omega]
  · show readK (3 :: (esc l ++ [0, 0]) ++ s) = ((3, 0, l), (3 :: (esc l ++ [0, 0])).length, 0)
    rw [List.cons_append, List.append_assoc]
    simp only [readK]
    rw [if_neg (by decide), if_neg (by decide), if_neg (by decide), if_neg (by decide)]
    show readK2 3 (scan (esc l ++ (0 :: 0 :: s))) = _
    rw [scan_esc]
    unfold readK2
    rw [if_pos rfl, if_neg (by rw [hs]; simp), if_neg (by simp only; omega)]
    simp
  · show readK (4 :: (esc l ++ [0, 0]) ++ s) = ((4, 0, l), (4 :: (esc l ++ [0, 0])).length, 0)
    rw [List.cons_append, List.append_assoc]
    simp only [readK]
    rw [if_neg (by decide), if_neg (by decide), if_neg (by decide), if_neg (by decide)]
    show readK2 4 (scan (esc l ++ (0 :: 0 :: s))) = _
    rw [scan_esc]
    unfold readK2
    rw [if_pos rfl, if_neg (by simp), if_neg (by simp only; omega)]
    simp

/-- the values of the first p bytes -/
inductive GotK (l : List UInt8) : List Vl → Nat → Prop
  | zero : GotK l [] 0
  | more {vs : List Vl} {p : Nat} {v : Vl} {k : Nat} (h : GotK l vs p) (hp : p < l.length) (hr : readK (l.drop p) = (v, k, 0)) : GotK l (vs ++ [v]) (p + k)
def allFK : Nat → List UInt8 → List Vl → List Vl × Nat
  | 0, _, vs => (vs, 0)
  | f + 1, l, vs => if l = [] then (vs, 0) else if (readK l).2.2 = 0 then allFK f (l.drop (readK l).2.1) (vs ++ [(readK l).1]) else ([], (readK l).2.2)
/-- all values that a text is, 0 or the error -/
def allK (l : List UInt8) : List Vl × Nat := allFK l.length l []
theorem readK_pos {l : List UInt8} {v : Vl} {k : Nat} (h : readK l = (v, k, 0)) : 1 ≤ k := by
  unfold readK at h
  split at h
  · cases h
  · unfold readK2 at h
    repeat' split at h
    all_goals first
      | (cases h; omega)
      | (cases h; done)
      | (injection h with h1 h2; injection h2 with h2 h3; omega)
theorem allFK_more (l : List UInt8) : ∀ {vs : List Vl} {p : Nat}, GotK l vs p → ∀ f, l.length ≤ f + 0 → ∃ g, l.length ≤ p + g ∧ allFK f l [] = allFK g (l.drop p) vs := by
  intro vs p h
  induction h with
  | zero => intro f hf; exact ⟨f, by omega, by rw [List.drop_zero]⟩
  | more h hp hr ih =>
    intro f hf
    obtain ⟨g, hg, he⟩ := ih f hf
    cases g with
    | zero => omega
    | succ g =>
      have hk := readK_pos hr
      refine ⟨g, by omega, ?_⟩
      rw [he, allFK, if_neg (by intro e; rw [List.drop_eq_nil_iff] at e; omega), hr, if_pos rfl, List.drop_drop]
theorem all_done {l : List UInt8} {vs : List Vl} {p : Nat} (h : GotK l vs p) (hp : l.length ≤ p) : allK l = (vs, 0) := by
  obtain ⟨g, _, he⟩ := allFK_more l h l.length (by omega)
  unfold allK
  rw [he, List.drop_eq_nil_of_le hp]
  cases g with
  | zero => rfl
  | succ g => rw [allFK, if_pos rfl]
theorem all_stop {l : List UInt8} {vs : List Vl} {p : Nat} {v : Vl} {k e : Nat} (h : GotK l vs p) (hp : p < l.length) (hr : readK (l.drop p) = (v, k, e)) (he : e ≠ 0) : allK l = ([], e) := by
  obtain ⟨g, hg, ha⟩ := allFK_more l h l.length (by omega)
  unfold allK
  rw [ha]
  cases g with
  | zero => omega
  | succ g => rw [allFK, if_neg (by intro e; rw [List.drop_eq_nil_iff] at e; omega), hr, if_neg he]
theorem got_of (l : List Vl) (h : ∀ v ∈ l, rightL v = true ∧ in64 v) (s : List UInt8) : GotK (ofK l ++ s) l (ofK l).length := by
  suffices H : ∀ (b a : List Vl), a ++ b = l → GotK (ofK l ++ s) a (ofK a).length → GotK (ofK l ++ s) l (ofK l).length from H l [] rfl .zero
  intro b
  induction b with
  | nil =>
    intro a hab hg
    rw [List.append_nil] at hab
    rw [hab] at hg
    exact hg
  | cons v b ih =>
    intro a hab h1
    have hv := h v (by rw [← hab]; simp)
    have hd : (ofK l ++ s).drop (ofK a).length = keyL v ++ (ofK b ++ s) := by
      rw [← hab]
      simp [ofK]
    obtain ⟨r, hr, _⟩ := key_head hv.1
    have hlen : (keyL v).length = r.length + 1 := by rw [show keyL v = _ from hr]; rfl
    have e : (keyL v ++ (ofK b ++ s)).length = (keyL v).length + (ofK b ++ s).length := List.length_append
    have h2 := GotK.more h1 (by
      have := congrArg List.length hd
      rw [List.length_drop, e] at this
      omega) (by rw [hd]; exact read_key hv.1 hv.2 _)
    refine ih (a ++ [v]) (by rw [← hab]; simp) ?_
    rw [ofK_snoc, List.length_append]
    exact h2
/-- what is made of values is read as they are -/
theorem all_of (l : List Vl) (h : ∀ v ∈ l, rightL v = true ∧ in64 v) : allK (ofK l) = (l, 0) := by
  have := got_of l h []
  rw [List.append_nil] at this
  exact all_done this (Nat.le_refl _)
end Go.Proofs.YthmjgaekcghonaaGreatDoor

/-
  A parameter of type api.Value, opened and shut.
-/
namespace Go.Proofs.YthmjgaekcghonaaGreatDoor
open Go.ChangeShapes Go.WideShapes Go.ChangeAt Go.RowKit Go.Joins

set_option maxRecDepth 100000 in
theorem cellsV : Tryz.prog.cellsOf 28 = 3 := by kernel_rfl
set_option maxRecDepth 100000 in
theorem openV {H : Type} {enc : TypeId × Value → H} {W : World} {base : Nat} {v : Value} {d : DataW H} {p : List MemPlace} {sp : Nat → Bool}
    (hv : Value.okWide Tryz.prog W .any base 28 v) (h : DataW.Trod enc Tryz.prog W 0 sp true 28 v d p) :
    ∃ (k n : Int) (s : ByteArray), v = VV k n s ∧ d = .agg [.lit (.int .i64 k), .lit (.int .i64 n), .lit (.string s.data.toList)] ∧ p = [] ∧ (Lit.int .i64 k).wf = true ∧ (Lit.int .i64 n).wf = true ∧ s.size ≤ maxLen := by
  obtain ⟨v0, v1, v2, y0, y1, y2, m, rfl, rfl, rfl, h0, h1, h2⟩ := open_agg3 Tryz.underlying28 (by kernel_rfl) cellsV hv h
  obtain ⟨k, e0, rfl, w0⟩ := DataW.trod_int Tryz.underlying3 h0
  obtain ⟨n, e1, rfl, w1⟩ := DataW.trod_int Tryz.underlying2 h1
  obtain ⟨s, e2, rfl, w2⟩ := DataW.trod_string Tryz.underlying9 h2
  simp at e0 e1 e2
  subst e0 e1 e2
  exact ⟨k, n, s, rfl, rfl, rfl, w0, w1, w2⟩
set_option maxRecDepth 100000 in
theorem shutV {H : Type} {enc : TypeId × Value → H} (W : World) (sp : Nat → Bool) {k n : Int} {s : ByteArray} (w0 : (Lit.int .i64 k).wf = true) (w1 : (Lit.int .i64 n).wf = true) (w2 : s.size ≤ maxLen) :
    DataW.Trod enc Tryz.prog W 0 sp true 28 (VV k n s) (.agg [.lit (.int .i64 k), .lit (.int .i64 n), .lit (.string s.data.toList)]) [] :=
  shut_agg3 (y0 := (.lit (.int .i64 k), [])) (y1 := (.lit (.int .i64 n), [])) (y2 := (.lit (.string s.data.toList), [])) Tryz.underlying28 (by kernel_rfl) cellsV
    ⟨1, by simp [DataW.trod, Tryz.underlying3, w0]⟩ ⟨1, by simp [DataW.trod, Tryz.underlying2, w1]⟩ ⟨1, by simp [DataW.trod, Tryz.underlying9, w2]⟩
end Go.Proofs.YthmjgaekcghonaaGreatDoor

/-
  Rows of values (three cells an element): such as lie somewhere, such as a call makes by itself, and a parameter of type []api.Value.
-/
namespace Go.Proofs.YthmjgaekcghonaaGreatDoor
open Go.RowKit

/-- a value with its string as the program has it -/
abbrev Vb := Int × Int × ByteArray
def vl (v : Vb) : Vl := (v.1, v.2.1, bs v.2.2)
def vls (l : List Vb) : List Vl := l.map vl
theorem vl_inj {a b : Vb} (h : vl a = vl b) : a = b := by
  obtain ⟨k, n, s⟩ := a
  obtain ⟨k', n', s'⟩ := b
  simp [vl] at h
  obtain ⟨rfl, rfl, h⟩ := h
  rw [bs_eq h]
theorem vls_inj {a b : List Vb} (h : vls a = vls b) : a = b := by
  induction a generalizing b with
  | nil => cases b with
    | nil => rfl
    | cons y b => simp [vls] at h
  | cons x a ih => cases b with
    | nil => simp [vls] at h
    | cons y b =>
      simp only [vls, List.map_cons, List.cons.injEq] at h
      rw [vl_inj h.1, ih h.2]
theorem vls_length (l : List Vb) : (vls l).length = l.length := List.length_map _
theorem vls_at (l : List Vb) (k : Nat) (h : k < l.length) : (vls l)[k]? = some (vl l[k]) := by simp [vls, h]

set_option maxRecDepth 100000 in
theorem infoV : (Tryz.prog.info? 28).map (fun i => (i.zero, i.size, i.bytes)) = some (some (.agg #[.int .i64 0, .int .i64 0, .string ByteArray.empty]), 3, 32) := by kernel_rfl
/-- values as cells -/
def P3 : List Vb → List Value
  | [] => []
  | t :: r => Value.int .i64 t.1 :: Value.int .i64 t.2.1 :: Value.string t.2.2 :: P3 r
theorem P3_append (a b : List Vb) : P3 (a ++ b) = P3 a ++ P3 b := by
  induction a with
  | nil => rfl
  | cons x r ih => simp [P3, ih]
theorem P3_at (l : List Vb) (i : Nat) (t : Vb) (h : l[i]? = some t) : (P3 l)[i * 3]? = some (.int .i64 t.1) ∧ (P3 l)[i * 3 + 1]? = some (.int .i64 t.2.1) ∧ (P3 l)[i * 3 + 2]? = some (.string t.2.2) := by
  induction l generalizing i with
  | nil => simp at h
  | cons x r ih =>
    cases i with
    | zero => simp at h; subst h; exact ⟨rfl, rfl, rfl⟩
    | succ i =>
      have := ih i (by simpa using h)
      rw [show (i + 1) * 3 = i * 3 + 1 + 1 + 1 by omega, show i * 3 + 1 + 1 + 1 + 1 = i * 3 + 1 + 1 + 1 + 1 by omega]
      rw [show i * 3 + 1 + 1 + 1 + 2 = i * 3 + 2 + 1 + 1 + 1 by omega]
      simpa [P3] using this
theorem P3_one (l : List Vb) : ∀ u ∈ P3 l, u.oneCell' = true := by
  induction l with
  | nil => intro u hu; cases hu
  | cons x r ih =>
    intro u hu
    simp [P3] at hu
    rcases hu with rfl | rfl | rfl | hu
    · rfl
    · rfl
    · rfl
    · exact ih u hu
/-- the slice value v is a row of the call's own, from block base on, and holds the values l -/
def OwnV (w : World) (base : Nat) (v : Value) (l : List Vb) : Prop := w.ownsRow base 28 3 v l.length (P3 l)
theorem OwnV.nil (w : World) (base : Nat) : OwnV w base (.slice none 0 0) [] := World.ownsRow_nil _ _ _ _
theorem OwnV.below {w w' : World} {base : Nat} {v : Value} {l : List Vb} (h : OwnV w base v l) (hb : Below w.heap.size w w') : OwnV w' base v l := owns_below h hb
theorem OwnV.alloc {w : World} {base : Nat} {v : Value} {l : List Vb} (h : OwnV w base v l) (o : Obj) : OwnV (w.alloc o) base v l := World.ownsRow.alloc h o
/-- a slice of values that lies below block B -/
def ValsAt (w : World) (B : Nat) (A : Option Addr) (l : List Vb) : Prop :=
  0 < l.length → ∃ b off, A = some ⟨b, off, none⟩ ∧ b < B ∧ ∀ j t, l[j]? = some t →
    w.cell? ⟨b, off + j * 3, none⟩ = some (.int .i64 t.1) ∧ w.cell? ⟨b, off + j * 3 + 1, none⟩ = some (.int .i64 t.2.1) ∧ w.cell? ⟨b, off + j * 3 + 2, none⟩ = some (.string t.2.2)
theorem ValsAt.of_own {w : World} {base : Nat} {v : Value} {l : List Vb} (h : OwnV w base v l) : ∃ A c, v = .slice A l.length c ∧ ValsAt w w.heap.size A l := by
  rcases h.2 with ⟨rfl, hl⟩ | ⟨g, cap, cur, rfl, hb, hg, _⟩
  · exact ⟨none, 0, by rw [hl], fun hp => absurd hp (by omega)⟩
  · refine ⟨some ⟨g, 0, none⟩, cap, rfl, fun _ => ⟨g, 0, rfl, (Array.getElem?_eq_some_iff.1 hg).1, fun j t hj => ?_⟩⟩
    obtain ⟨q1, q2, q3⟩ := P3_at l j t hj
    have r1 := World.ownsRow.cells h (g := g) rfl _ _ q1
    have r2 := World.ownsRow.cells h (g := g) rfl _ _ q2
    have r3 := World.ownsRow.cells h (g := g) rfl _ _ q3
    rw [Addr.add_lit] at r1 r2 r3
    exact ⟨r1, by rw [Nat.add_assoc]; exact r2, by rw [Nat.add_assoc]; exact r3⟩
theorem ValsAt.below {w w' : World} {B : Nat} {A : Option Addr} {l : List Vb} (h : ValsAt w B A l) (hb : Below B w w') : ValsAt w' B A l := fun hl => by
  obtain ⟨b, off, rfl, h1, h2⟩ := h hl
  exact ⟨b, off, rfl, h1, fun j t hj => ⟨(hb.cell (p := ⟨b, off + j * 3, none⟩) h1).trans (h2 j t hj).1, (hb.cell (p := ⟨b, off + j * 3 + 1, none⟩) h1).trans (h2 j t hj).2.1, (hb.cell (p := ⟨b, off + j * 3 + 2, none⟩) h1).trans (h2 j t hj).2.2⟩⟩
theorem ValsAt.more {w : World} {B B' : Nat} {A : Option Addr} {l : List Vb} (h : ValsAt w B A l) (hB : B ≤ B') : ValsAt w B' A l := fun hl => by
  obtain ⟨b, off, rfl, h1, h2⟩ := h hl
  exact ⟨b, off, rfl, by omega, h2⟩
theorem ValsAt.to {w w' : World} {A : Option Addr} {l : List Vb} (h : ValsAt w w.heap.size A l) (hb : Below w.heap.size w w') : ValsAt w' w'.heap.size A l := (h.below hb).more hb.size
/-- a row of one value, as a call makes it -/
theorem ValsAt.one (w : World) (k n : Int) (s : ByteArray) : ValsAt (w.alloc (.cells #[.int .i64 k, .int .i64 n, .string s] 28)) (w.alloc (.cells #[.int .i64 k, .int .i64 n, .string s] 28)).heap.size (some ⟨w.heap.size, 0, none⟩) [(k, n, s)] := fun _ => by
  refine ⟨w.heap.size, 0, rfl, by simp, fun j t hj => ?_⟩
  match j, hj with
  | 0, hj => simp at hj; subst hj; simp
/-- the cells of one element -/
theorem ValsAt.get {w : World} {B : Nat} {A : Option Addr} {l : List Vb} (h : ValsAt w B A l) (k : Nat) (hk : k < l.length) : ∃ b off, A = some ⟨b, off, none⟩ ∧ b < B ∧
    w.cell? ⟨b, off + k * 3, none⟩ = some (.int .i64 l[k].1) ∧ w.cell? ⟨b, off + k * 3 + 1, none⟩ = some (.int .i64 l[k].2.1) ∧ w.cell? ⟨b, off + k * 3 + 2, none⟩ = some (.string l[k].2.2) := by
  obtain ⟨b, off, rfl, h1, h2⟩ := h (by omega)
  exact ⟨b, off, rfl, h1, h2 k l[k] (by simp [hk])⟩

/-- values come in -/
def ValsIn (w : World) (a : Option Addr) (len : Nat) (l : List Vb) : Prop :=
  l.length = len ∧ len ≤ maxLen ∧ ValsAt w w.heap.size a l ∧ ∀ v ∈ l, (Lit.int .i64 v.1).wf = true ∧ (Lit.int .i64 v.2.1).wf = true ∧ v.2.2.size ≤ maxLen
theorem in64_of {l : List Vb} (h : ∀ v ∈ l, (Lit.int .i64 v.1).wf = true ∧ (Lit.int .i64 v.2.1).wf = true ∧ v.2.2.size ≤ maxLen) : ∀ v ∈ vls l, in64 v := fun v hv => by
  simp only [vls, List.mem_map] at hv
  obtain ⟨x, hx, rfl⟩ := hv
  exact wf64 (h x hx).2.1
end Go.Proofs.YthmjgaekcghonaaGreatDoor

/-
  Columns, tables, fields and rows of package schema in plain words: which are right, what is found, what a row's error is.
-/
namespace Go.Proofs.YthmjgaekcghonaaGreatDoor
open Go.RowKit

/-- are two strings the same? -/
abbrev eqS (a b : ByteArray) : Bool := a.toList == b.toList
theorem eqS_iff {a b : ByteArray} : eqS a b = true ↔ a = b := by
  constructor
  · intro h
    have h' : a.toList = b.toList := by simpa [eqS] using h
    rw [ByteArray.toList_eq, ByteArray.toList_eq] at h'
    exact bs_eq h'
  · rintro rfl; simp [eqS]
theorem eqS_self (a : ByteArray) : eqS a a = true := eqS_iff.2 rfl
theorem eqS_comm (a b : ByteArray) : eqS a b = eqS b a := by
  apply bool_eq
  rw [eqS_iff, eqS_iff]
  exact ⟨Eq.symm, Eq.symm⟩
/-- a column, a table, a field -/
structure Cb where
  id : Int
  nm : ByteArray
  tk : Int
  tm : Int
  nl : Bool
  dk : Int
  dn : Int
  ds : ByteArray
structure Tb where
  id : Int
  nm : ByteArray
  key : Int
  nx : Int
  A : Option Addr
  cap : Nat
  cols : List Cb
structure Fb where
  nm : ByteArray
  k : Int
  n : Int
  s : ByteArray
abbrev Cb.dv (c : Cb) : Vb := (c.dk, c.dn, c.ds)
abbrev Fb.v (f : Fb) : Vb := (f.k, f.n, f.s)
abbrev CV (c : Cb) : Value := .agg #[.int .i64 c.id, .string c.nm, .int .i64 c.tk, .int .i64 c.tm, .bool c.nl, .int .i64 c.dk, .int .i64 c.dn, .string c.ds]
abbrev TV (t : Tb) : Value := .agg #[.int .i64 t.id, .string t.nm, .int .i64 t.key, .int .i64 t.nx, .slice t.A t.cols.length t.cap]
abbrev FV (f : Fb) : Value := .agg #[.string f.nm, .int .i64 f.k, .int .i64 f.n, .string f.s]
/-- is a value null? -/
def nulV (k n : Int) (s : ByteArray) : Bool := (k == 0) && ((n == 0) && eqS s ByteArray.empty)
def rightC (c : Cb) : Bool := decide (0 ≤ c.id) && (decide (c.id < 200) && (rightN (bs c.nm) && (rightT c.tk c.tm && (nulV c.dk c.dn c.ds || fitT c.tk c.tm c.dk c.dn c.ds))))
/-- what the sizes of a column, a table are -/
def WfC (c : Cb) : Prop := c.nm.size ≤ 1000000 ∧ -9223372036854775808 ≤ c.dn ∧ c.dn < 9223372036854775808
def WfT (t : Tb) : Prop := t.nm.size ≤ 1000000 ∧ t.cols.length ≤ 1000000 ∧ t.cols.length ≤ t.cap ∧ ∀ c ∈ t.cols, WfC c

/-! ### The first one -/
theorem find_at {α : Type} {p : α → Bool} {l : List α} {k : Nat} {y : α} (h : ∀ j x, l[j]? = some x → j < k → p x = false) (hy : l[k]? = some y) (hp : p y = true) : l.findIdx? p = some k := by
  induction l generalizing k with
  | nil => simp at hy
  | cons a r ih =>
    rw [List.findIdx?_cons]
    cases k with
    | zero => simp at hy; subst hy; simp [hp]
    | succ k =>
      have h0 := h 0 a rfl (by omega)
      rw [h0]
      have := ih (k := k) (fun j x hj hk => h (j + 1) x (by simpa using hj) (by omega)) (by simpa using hy)
      simp [this]
theorem find_no {α : Type} {p : α → Bool} {l : List α} (h : ∀ (j : Nat) x, l[j]? = some x → p x = false) : l.findIdx? p = none := by
  rw [List.findIdx?_eq_none_iff]
  intro x hx
  obtain ⟨j, hj⟩ := List.mem_iff_getElem?.1 hx
  exact h j x hj
theorem find_some {α : Type} {p : α → Bool} {l : List α} {k : Nat} (h : l.findIdx? p = some k) : ∃ y, l[k]? = some y ∧ p y = true ∧ ∀ j x, l[j]? = some x → j < k → p x = false := by
  rw [List.findIdx?_eq_some_iff_getElem] at h
  obtain ⟨h1, h2, h3⟩ := h
  refine ⟨l[k], by simp [h1], h2, fun j x hj hk => ?_⟩
  have := h3 j hk
  obtain ⟨hj1, rfl⟩ := List.getElem?_eq_some_iff.1 hj
  simpa using this
theorem find_lt {α : Type} {p : α → Bool} {l : List α} {k : Nat} (h : l.findIdx? p = some k) : k < l.length := by
  obtain ⟨y, h1, _⟩ := find_some h
  exact (List.getElem?_eq_some_iff.1 h1).1
/-- the pair that 'first' returns, the number that the document's own returns -/
def fstV (o : Option Nat) : Value := .tuple #[.int .i64 ((o.getD 0 : Nat) : Int), .bool o.isSome]
def idxI (o : Option Nat) : Int := match o with
  | some k => k
  | none => -1

/-! ### What holds at each place -/
theorem all_at {α : Type} {p : α → Bool} {l : List α} (h : ∀ (j : Nat) x, l[j]? = some x → p x = true) : l.all p = true := by
  rw [List.all_eq_true]
  intro x hx
  obtain ⟨j, hj⟩ := List.mem_iff_getElem?.1 hx
  exact h j x hj
theorem all_find {α : Type} (p : α → Bool) (l : List α) : (l.findIdx? fun x => !p x).isSome = !l.all p := by
  cases h : l.findIdx? fun x => !p x with
  | none =>
    rw [List.findIdx?_eq_none_iff] at h
    have : l.all p = true := List.all_eq_true.2 fun x hx => by simpa using h x hx
    simp [this]
  | some k =>
    obtain ⟨y, h1, h2, _⟩ := find_some h
    cases h3 : l.all p with
    | false => rfl
    | true =>
      rw [List.all_eq_true] at h3
      have := h3 y (List.mem_of_getElem? h1)
      rw [this] at h2; cases h2
/-- number and name of the element at a place are what they should be, against those before it -/
def OkAt {α : Type} (idf : α → Int) (nmf : α → ByteArray) (l : List α) (i : Nat) : Prop :=
  ∀ x, l[i]? = some x → (∀ y, 0 < i → l[i - 1]? = some y → idf y < idf x) ∧ ∀ j y, j < i → l[j]? = some y → nmf y ≠ nmf x
def Dist {α : Type} (idf : α → Int) (nmf : α → ByteArray) (l : List α) : Prop := ∀ i, i < l.length → OkAt idf nmf l i
noncomputable def tf (p : Prop) : Bool := @decide p (Classical.propDecidable p)
theorem tf_iff {p : Prop} : tf p = true ↔ p := by unfold tf; exact @decide_eq_true_iff p (Classical.propDecidable p)
theorem tf_yes {p : Prop} (h : p) : tf p = true := tf_iff.2 h
theorem tf_no {p : Prop} (h : ¬ p) : tf p = false := by
  cases e : tf p with
  | false => rfl
  | true => exact absurd (tf_iff.1 e) h
/-- numbers that increase are different -/
theorem dist_lt {α : Type} {idf : α → Int} {nmf : α → ByteArray} {l : List α} (h : Dist idf nmf l) : ∀ (d i : Nat) (x y : α), l[i]? = some x → l[i + d + 1]? = some y → idf x < idf y
  | 0, i, x, y, hx, hy => (h (i + 1) (List.getElem?_eq_some_iff.1 hy).1 y hy).1 x (by omega) (by simpa using hx)
  | d + 1, i, x, y, hx, hy => by
    have hl := (List.getElem?_eq_some_iff.1 hy).1
    obtain ⟨z, hz⟩ : ∃ z, l[i + d + 1]? = some z := ⟨l[i + d + 1]'(by omega), by simp [show i + d + 1 < l.length by omega]⟩
    have h1 := dist_lt h d i x z hx hz
    have h2 := (h (i + d + 2) (by omega) y (by rw [← hy]; congr 1)).1 z (by omega) (by rw [← hz]; congr 1)
    omega

/-! ### Tables -/
def keyOk (t : Tb) : Prop := ∃ i c, t.cols.findIdx? (fun c => c.id == t.key) = some i ∧ t.cols[i]? = some c ∧ c.nl = false
noncomputable def rightCols (t : Tb) : Bool := (t.cols.all fun c => rightC c && decide (c.id < t.nx)) && tf (Dist Cb.id Cb.nm t.cols)
noncomputable def rightTab (t : Tb) : Bool := decide (0 ≤ t.id) && (rightN (bs t.nm) && (decide (t.nx ≤ 200) && (decide (1 ≤ (t.cols.length : Int)) && (decide ((t.cols.length : Int) ≤ 10) && (rightCols t && tf (keyOk t))))))
/-- the names: the first one of a name is at its own place -/
theorem find_own {l : List Cb} {i : Nat} {c : Cb} (hc : l[i]? = some c) : (l.findIdx? fun x => eqS x.nm c.nm) = some i ↔ ∀ j y, j < i → l[j]? = some y → y.nm ≠ c.nm := by
  constructor
  · intro h j y hj hy e
    obtain ⟨_, _, _, h3⟩ := find_some h
    have := h3 j y hy hj
    rw [eqS_iff.2 e] at this; cases this
  · intro h
    refine find_at (fun j x hj hk => ?_) hc (eqS_self _)
    cases e : eqS x.nm c.nm with
    | false => rfl
    | true => exact absurd (eqS_iff.1 e) (h j x hk hj)
theorem find_ownT {l : List Tb} {i : Nat} {c : Tb} (hc : l[i]? = some c) : (l.findIdx? fun x => eqS x.nm c.nm) = some i ↔ ∀ j y, j < i → l[j]? = some y → y.nm ≠ c.nm := by
  constructor
  · intro h j y hj hy e
    obtain ⟨_, _, _, h3⟩ := find_some h
    have := h3 j y hy hj
    rw [eqS_iff.2 e] at this; cases this
  · intro h
    refine find_at (fun j x hj hk => ?_) hc (eqS_self _)
    cases e : eqS x.nm c.nm with
    | false => rfl
    | true => exact absurd (eqS_iff.1 e) (h j x hk hj)
/-- where all columns are in order the key is that of any column that could be it -/
theorem key_any {t : Tb} (hd : Dist Cb.id Cb.nm t.cols) : tf (keyOk t) = t.cols.any fun c => (c.id == t.key) && !c.nl := by
  apply bool_eq
  rw [tf_iff, List.any_eq_true]
  constructor
  · rintro ⟨i, c, h1, h2, h3⟩
    obtain ⟨y, g1, g2, _⟩ := find_some h1
    rw [h2] at g1; cases g1
    exact ⟨c, List.mem_of_getElem? h2, by simp [g2, h3]⟩
  · rintro ⟨c, hc, h⟩
    obtain ⟨i, hi⟩ := List.mem_iff_getElem?.1 hc
    simp only [Bool.and_eq_true, beq_iff_eq, Bool.not_eq_true'] at h
    refine ⟨i, c, find_at (fun j x hj hk => ?_) hi (by simp [h.1]), hi, h.2⟩
    have := dist_lt hd (i - j - 1) j x c hj (by rw [show j + (i - j - 1) + 1 = i by omega]; exact hi)
    simp; omega
/-- a catalog -/
noncomputable def rightCat (l : List Tb) : Bool := decide ((l.length : Int) ≤ 6) && (l.all rightTab && tf (Dist Tb.id Tb.nm l))

/-! ### Rows -/
def celE (c : Cb) (v : Vb) : Int := if nulV v.1 v.2.1 v.2.2 = true then (if c.nl = true then 0 else 11) else if fitT c.tk c.tm v.1 v.2.1 v.2.2 = true then 0 else 10
def rowE : List Cb → List Vb → Int
  | c :: cs, v :: vs => if celE c v = 0 then rowE cs vs else celE c v
  | _, _ => 0
theorem rowE_stop : ∀ {cs : List Cb} {vs : List Vb} {k : Nat} {c : Cb} {v : Vb}, (∀ j c v, j < k → cs[j]? = some c → vs[j]? = some v → celE c v = 0) → cs[k]? = some c → vs[k]? = some v → celE c v ≠ 0 → rowE cs vs = celE c v
  | [], _, _, _, _, _, hc, _, _ => by simp at hc
  | _ :: _, [], _, _, _, _, _, hv, _ => by simp at hv
  | a :: cs, b :: vs, 0, c, v, _, hc, hv, hn => by
    simp at hc hv; subst hc hv
    rw [rowE, if_neg hn]
  | a :: cs, b :: vs, k + 1, c, v, h, hc, hv, hn => by
    rw [rowE, if_pos (h 0 a b (by omega) rfl rfl)]
    exact rowE_stop (k := k) (fun j c v hj h1 h2 => h (j + 1) c v (by omega) (by simpa using h1) (by simpa using h2)) (by simpa using hc) (by simpa using hv) hn
theorem rowE_done : ∀ {cs : List Cb} {vs : List Vb}, (∀ (j : Nat) c v, cs[j]? = some c → vs[j]? = some v → celE c v = 0) → rowE cs vs = 0
  | [], _, _ => by rw [rowE]; intros; contradiction
  | _ :: _, [], _ => by rw [rowE]; intros; contradiction
  | a :: cs, b :: vs, h => by
    rw [rowE, if_pos (h 0 a b rfl rfl)]
    exact rowE_done (fun j c v h1 h2 => h (j + 1) c v (by simpa using h1) (by simpa using h2))
noncomputable def rowT (t : Tb) (vs : List Vb) : Int := if rightTab t = true then (if vs.length = t.cols.length then rowE t.cols vs else 5) else 2

/-! ### Fields -/
/-- the place of the column of a name -/
def colI (t : Tb) (s : ByteArray) : Option Nat := t.cols.findIdx? fun c => eqS c.nm s
/-- why the field at a place can't stand; 0 -/
noncomputable def fldE (t : Tb) (l : List Fb) (fixed : Int) (i : Nat) (f : Fb) : Int :=
  if (colI t f.nm).isSome = true then (if ((l.take i).findIdx? fun g => eqS g.nm f.nm).isSome = true then 14 else if idxI (colI t f.nm) = fixed then 15 else 0) else 13
/-- the row with the first fields' values -/
def updR (t : Tb) (vs : List Vb) (l : List Fb) : List Vb := l.foldl (fun r f => r.set ((colI t f.nm).getD 0) f.v) vs
theorem updR_length (t : Tb) (vs : List Vb) (l : List Fb) : (updR t vs l).length = vs.length := by
  unfold updR
  induction l generalizing vs with
  | nil => rfl
  | cons f l ih => rw [List.foldl_cons, ih, List.length_set]
theorem updR_snoc (t : Tb) (vs : List Vb) (l : List Fb) (f : Fb) : updR t vs (l ++ [f]) = (updR t vs l).set ((colI t f.nm).getD 0) f.v := by
  unfold updR; rw [List.foldl_append]; rfl
/-- the first field that can't stand -/
noncomputable def fldsE (t : Tb) (l : List Fb) (fixed : Int) : Int := go 0 l
where go (i : Nat) : List Fb → Int
  | [] => 0
  | f :: r => if fldE t l fixed i f = 0 then go (i + 1) r else fldE t l fixed i f
theorem fldsE_go (t : Tb) (l : List Fb) (fixed : Int) : ∀ (r : List Fb) (i k : Nat) (f : Fb), (∀ j g, r[j]? = some g → j < k → fldE t l fixed (i + j) g = 0) → r[k]? = some f → fldE t l fixed (i + k) f ≠ 0 → fldsE.go t l fixed i r = fldE t l fixed (i + k) f
  | [], _, _, _, _, h, _ => by simp at h
  | a :: r, i, 0, f, _, h, hn => by
    simp at h; subst h
    have hn' : fldE t l fixed i a ≠ 0 := hn
    rw [fldsE.go, if_neg hn']; rfl
  | a :: r, i, k + 1, f, h0, h, hn => by
    have h1 : fldE t l fixed i a = 0 := h0 0 a rfl (by omega)
    rw [fldsE.go, if_pos h1]
    have := fldsE_go t l fixed r (i + 1) k f (fun j g hj hk => by rw [show i + 1 + j = i + (j + 1) by omega]; exact h0 (j + 1) g (by simpa using hj) (by omega)) (by simpa using h) (by rw [show i + 1 + k = i + (k + 1) by omega]; exact hn)
    rw [this, show i + 1 + k = i + (k + 1) by omega]
theorem fldsE_go0 (t : Tb) (l : List Fb) (fixed : Int) : ∀ (r : List Fb) (i : Nat), (∀ j g, r[j]? = some g → fldE t l fixed (i + j) g = 0) → fldsE.go t l fixed i r = 0
  | [], _, _ => rfl
  | a :: r, i, h0 => by
    have h1 : fldE t l fixed i a = 0 := h0 0 a rfl
    rw [fldsE.go, if_pos h1]
    exact fldsE_go0 t l fixed r (i + 1) fun j g hj => by rw [show i + 1 + j = i + (j + 1) by omega]; exact h0 (j + 1) g (by simpa using hj)
theorem fldsE_stop {t : Tb} {l : List Fb} {fixed : Int} {k : Nat} {f : Fb} (h : ∀ j g, l[j]? = some g → j < k → fldE t l fixed j g = 0) (hf : l[k]? = some f) (hn : fldE t l fixed k f ≠ 0) : fldsE t l fixed = fldE t l fixed k f := by
  have := fldsE_go t l fixed l 0 k f (fun j g hj hk => by rw [Nat.zero_add]; exact h j g hj hk) hf (by rw [Nat.zero_add]; exact hn)
  rwa [Nat.zero_add] at this
theorem fldsE_done {t : Tb} {l : List Fb} {fixed : Int} (h : ∀ (j : Nat) g, l[j]? = some g → fldE t l fixed j g = 0) : fldsE t l fixed = 0 :=
  fldsE_go0 t l fixed l 0 fun j g hj => by rw [Nat.zero_add]; exact h j g hj
/-- error and row of 'replace': the row with the fields' values, or none -/
noncomputable def replE (t : Tb) (vs : List Vb) (l : List Fb) (fixed : Int) : Int :=
  if 10 < l.length then 3 else if fldsE t l fixed = 0 then rowT t (updR t vs l) else fldsE t l fixed
noncomputable def replR (t : Tb) (vs : List Vb) (l : List Fb) (fixed : Int) : List Vb := if replE t vs l fixed = 0 then updR t vs l else []
end Go.Proofs.YthmjgaekcghonaaGreatDoor

/-
  Rows of columns, tables and fields in memory; parameters of type api.Catalog, api.Table and []api.Field; structs compared.
-/
namespace Go.Proofs.YthmjgaekcghonaaGreatDoor
open Go.RowKit Go.WideShapes

theorem run_eql_V (w : World) (k n k' n' : Int) (s s' : ByteArray) : (binOp .eql 28 (VV k n s) (VV k' n' s')).run Tryz.prog w = .ok (.bool ((k == k') && ((n == n') && eqS s s'))) w := by
  cases h0 : (k == k') <;> cases h1 : (n == n') <;> cases h2 : (s.toList == s'.toList)
  all_goals simp [go_sem, h0, h1, h2]
theorem run_neq_V (w : World) (k n k' n' : Int) (s s' : ByteArray) : (binOp .neq 28 (VV k n s) (VV k' n' s')).run Tryz.prog w = .ok (.bool (!((k == k') && ((n == n') && eqS s s')))) w := by
  cases h0 : (k == k') <;> cases h1 : (n == n') <;> cases h2 : (s.toList == s'.toList)
  all_goals simp [go_sem, h0, h1, h2]
def eqC (a b : Cb) : Bool := (a.id == b.id) && (eqS a.nm b.nm && ((a.tk == b.tk) && ((a.tm == b.tm) && ((a.nl == b.nl) && ((a.dk == b.dk) && ((a.dn == b.dn) && eqS a.ds b.ds))))))
theorem run_eql_C (w : World) (a b : Cb) : (binOp .eql 63 (CV a) (CV b)).run Tryz.prog w = .ok (.bool (eqC a b)) w := by
  unfold eqC
  cases h0 : (a.id == b.id)
  · simp [go_sem, h0]
  cases h1 : (a.nm.toList == b.nm.toList)
  · simp [go_sem, h0, h1]
  cases h2 : (a.tk == b.tk)
  · simp [go_sem, h0, h1, h2]
  cases h3 : (a.tm == b.tm)
  · simp [go_sem, h0, h1, h2, h3]
  cases h4 : (a.nl == b.nl)
  · simp [go_sem, h0, h1, h2, h3, h4]
  cases h5 : (a.dk == b.dk)
  · simp [go_sem, h0, h1, h2, h3, h4, h5]
  cases h6 : (a.dn == b.dn)
  · simp [go_sem, h0, h1, h2, h3, h4, h5, h6]
  cases h7 : (a.ds.toList == b.ds.toList)
  · simp [go_sem, h0, h1, h2, h3, h4, h5, h6, h7]
  simp [go_sem, h0, h1, h2, h3, h4, h5, h6, h7]
theorem run_neq_C (w : World) (a b : Cb) : (binOp .neq 63 (CV a) (CV b)).run Tryz.prog w = .ok (.bool (!eqC a b)) w := by
  unfold eqC
  cases h0 : (a.id == b.id)
  · simp [go_sem, h0]
  cases h1 : (a.nm.toList == b.nm.toList)
  · simp [go_sem, h0, h1]
  cases h2 : (a.tk == b.tk)
  · simp [go_sem, h0, h1, h2]
  cases h3 : (a.tm == b.tm)
  · simp [go_sem, h0, h1, h2, h3]
  cases h4 : (a.nl == b.nl)
  · simp [go_sem, h0, h1, h2, h3, h4]
  cases h5 : (a.dk == b.dk)
  · simp [go_sem, h0, h1, h2, h3, h4, h5]
  cases h6 : (a.dn == b.dn)
  · simp [go_sem, h0, h1, h2, h3, h4, h5, h6]
  cases h7 : (a.ds.toList == b.ds.toList)
  · simp [go_sem, h0, h1, h2, h3, h4, h5, h6, h7]
  simp [go_sem, h0, h1, h2, h3, h4, h5, h6, h7]
theorem eqC_iff {a b : Cb} : eqC a b = true ↔ a = b := by
  obtain ⟨a1, a2, a3, a4, a5, a6, a7, a8⟩ := a
  obtain ⟨b1, b2, b3, b4, b5, b6, b7, b8⟩ := b
  have e2 : a2.toList = b2.toList ↔ a2 = b2 := by rw [← eqS_iff]; simp [eqS]
  have e8 : a8.toList = b8.toList ↔ a8 = b8 := by rw [← eqS_iff]; simp [eqS]
  simp only [eqC, Bool.and_eq_true, beq_iff_eq, Cb.mk.injEq, e2, e8]

/-! ### Rows of structs -/
def fC (c : Cb) : List Value := [.int .i64 c.id, .string c.nm, .int .i64 c.tk, .int .i64 c.tm, .bool c.nl, .int .i64 c.dk, .int .i64 c.dn, .string c.ds]
def fT (t : Tb) : List Value := [.int .i64 t.id, .string t.nm, .int .i64 t.key, .int .i64 t.nx, .slice t.A t.cols.length t.cap]
def fF (f : Fb) : List Value := [.string f.nm, .int .i64 f.k, .int .i64 f.n, .string f.s]
def fV (v : Vb) : List Value := [.int .i64 v.1, .int .i64 v.2.1, .string v.2.2]
/-- a slice of structs of m cells that lies below block B -/
def RowAt {α : Type} (m : Nat) (f : α → List Value) (w : World) (B : Nat) (A : Option Addr) (l : List α) : Prop :=
  0 < l.length → ∃ b off, A = some ⟨b, off, none⟩ ∧ b < B ∧ ∀ j x, l[j]? = some x → ∀ i v, (f x)[i]? = some v → w.cell? ⟨b, off + j * m + i, none⟩ = some v
theorem RowAt.below {α : Type} {m : Nat} {f : α → List Value} {w w' : World} {B : Nat} {A : Option Addr} {l : List α} (h : RowAt m f w B A l) (hb : Below B w w') : RowAt m f w' B A l := fun hl => by
  obtain ⟨b, off, rfl, h1, h2⟩ := h hl
  exact ⟨b, off, rfl, h1, fun j x hj i v hv => (hb.cell (p := ⟨b, off + j * m + i, none⟩) h1).trans (h2 j x hj i v hv)⟩
theorem RowAt.more {α : Type} {m : Nat} {f : α → List Value} {w : World} {B B' : Nat} {A : Option Addr} {l : List α} (h : RowAt m f w B A l) (hB : B ≤ B') : RowAt m f w B' A l := fun hl => by
  obtain ⟨b, off, rfl, h1, h2⟩ := h hl
  exact ⟨b, off, rfl, by omega, h2⟩
theorem RowAt.to {α : Type} {m : Nat} {f : α → List Value} {w w' : World} {A : Option Addr} {l : List α} (h : RowAt m f w w.heap.size A l) (hb : Below w.heap.size w w') : RowAt m f w' w'.heap.size A l := (h.below hb).more hb.size
/-- a shorter slice of the same -/
theorem RowAt.take {α : Type} {m : Nat} {f : α → List Value} {w : World} {B : Nat} {A : Option Addr} {l : List α} (h : RowAt m f w B A l) (n : Nat) : RowAt m f w B A (l.take n) := fun hl => by
  obtain ⟨b, off, rfl, h1, h2⟩ := h (by rw [List.length_take] at hl; omega)
  exact ⟨b, off, rfl, h1, fun j x hj i v hv => h2 j x (by rw [List.getElem?_take] at hj; split at hj; exact hj; cases hj) i v hv⟩
def ColsAt (w : World) (B : Nat) (A : Option Addr) (l : List Cb) : Prop := RowAt 8 fC w B A l
def FldsAt (w : World) (B : Nat) (A : Option Addr) (l : List Fb) : Prop := RowAt 4 fF w B A l
/-- what of a table lies elsewhere -/
def TabAt (w : World) (B : Nat) (t : Tb) : Prop := ColsAt w B t.A t.cols
def TabsAt (w : World) (B : Nat) (A : Option Addr) (l : List Tb) : Prop := RowAt 5 fT w B A l ∧ ∀ t ∈ l, TabAt w B t
theorem TabsAt.below {w w' : World} {B : Nat} {A : Option Addr} {l : List Tb} (h : TabsAt w B A l) (hb : Below B w w') : TabsAt w' B A l := ⟨h.1.below hb, fun t ht => RowAt.below (h.2 t ht) hb⟩
theorem TabsAt.more {w : World} {B B' : Nat} {A : Option Addr} {l : List Tb} (h : TabsAt w B A l) (hB : B ≤ B') : TabsAt w B' A l := ⟨h.1.more hB, fun t ht => RowAt.more (h.2 t ht) hB⟩
theorem TabsAt.to {w w' : World} {A : Option Addr} {l : List Tb} (h : TabsAt w w.heap.size A l) (hb : Below w.heap.size w w') : TabsAt w' w'.heap.size A l := (h.below hb).more hb.size
theorem TabsAt.take {w : World} {B : Nat} {A : Option Addr} {l : List Tb} (h : TabsAt w B A l) (n : Nat) : TabsAt w B A (l.take n) := ⟨h.1.take n, fun t ht => h.2 t (List.mem_of_mem_take ht)⟩
theorem ColsAt.get {w : World} {B : Nat} {A : Option Addr} {l : List Cb} (h : ColsAt w B A l) (k : Nat) (c : Cb) (hk : l[k]? = some c) : ∃ b off, A = some ⟨b, off, none⟩ ∧ b < B ∧
    w.cell? ⟨b, off + k * 8, none⟩ = some (.int .i64 c.id) ∧ w.cell? ⟨b, off + k * 8 + 1, none⟩ = some (.string c.nm) ∧ w.cell? ⟨b, off + k * 8 + 2, none⟩ = some (.int .i64 c.tk) ∧ w.cell? ⟨b, off + k * 8 + 3, none⟩ = some (.int .i64 c.tm) ∧
    w.cell? ⟨b, off + k * 8 + 4, none⟩ = some (.bool c.nl) ∧ w.cell? ⟨b, off + k * 8 + 5, none⟩ = some (.int .i64 c.dk) ∧ w.cell? ⟨b, off + k * 8 + 6, none⟩ = some (.int .i64 c.dn) ∧ w.cell? ⟨b, off + k * 8 + 7, none⟩ = some (.string c.ds) := by
  obtain ⟨b, off, rfl, h1, h2⟩ := h (by have := (List.getElem?_eq_some_iff.1 hk).1; omega)
  have := h2 k c hk
  exact ⟨b, off, rfl, h1, this 0 _ rfl, this 1 _ rfl, this 2 _ rfl, this 3 _ rfl, this 4 _ rfl, this 5 _ rfl, this 6 _ rfl, this 7 _ rfl⟩
theorem TabsAt.get {w : World} {B : Nat} {A : Option Addr} {l : List Tb} (h : TabsAt w B A l) (k : Nat) (t : Tb) (hk : l[k]? = some t) : ∃ b off, A = some ⟨b, off, none⟩ ∧ b < B ∧
    w.cell? ⟨b, off + k * 5, none⟩ = some (.int .i64 t.id) ∧ w.cell? ⟨b, off + k * 5 + 1, none⟩ = some (.string t.nm) ∧ w.cell? ⟨b, off + k * 5 + 2, none⟩ = some (.int .i64 t.key) ∧ w.cell? ⟨b, off + k * 5 + 3, none⟩ = some (.int .i64 t.nx) ∧
    w.cell? ⟨b, off + k * 5 + 4, none⟩ = some (.slice t.A t.cols.length t.cap) := by
  obtain ⟨b, off, rfl, h1, h2⟩ := h.1 (by have := (List.getElem?_eq_some_iff.1 hk).1; omega)
  have := h2 k t hk
  exact ⟨b, off, rfl, h1, this 0 _ rfl, this 1 _ rfl, this 2 _ rfl, this 3 _ rfl, this 4 _ rfl⟩
theorem FldsAt.get {w : World} {B : Nat} {A : Option Addr} {l : List Fb} (h : FldsAt w B A l) (k : Nat) (f : Fb) (hk : l[k]? = some f) : ∃ b off, A = some ⟨b, off, none⟩ ∧ b < B ∧
    w.cell? ⟨b, off + k * 4, none⟩ = some (.string f.nm) ∧ w.cell? ⟨b, off + k * 4 + 1, none⟩ = some (.int .i64 f.k) ∧ w.cell? ⟨b, off + k * 4 + 2, none⟩ = some (.int .i64 f.n) ∧ w.cell? ⟨b, off + k * 4 + 3, none⟩ = some (.string f.s) := by
  obtain ⟨b, off, rfl, h1, h2⟩ := h (by have := (List.getElem?_eq_some_iff.1 hk).1; omega)
  have := h2 k f hk
  exact ⟨b, off, rfl, h1, this 0 _ rfl, this 1 _ rfl, this 2 _ rfl, this 3 _ rfl⟩

/-! ### A struct in its box -/
def BlkN (w : World) (b : Nat) (vs : List Value) : Prop := ∀ i v, vs[i]? = some v → w.cell? ⟨b, i, none⟩ = some v
theorem BlkN.new (w : World) (b : Nat) (vs : List Value) (t : TypeId) (h : b = w.heap.size) : BlkN (w.alloc (.cells vs.toArray t)) b vs := fun i v hv => by
  subst h
  simp [hv]
theorem BlkN.below {w w1 : World} {b B : Nat} {vs : List Value} (h : BlkN w b vs) (hb : Below B w w1) (hB : b < B) : BlkN w1 b vs := fun i v hv => (hb.cell (p := ⟨b, i, none⟩) hB).trans (h i v hv)
theorem BlkN.alloc {w : World} {b : Nat} {vs : List Value} (h : BlkN w b vs) (hb : b < w.heap.size) (o : Obj) : BlkN (w.alloc o) b vs := h.below ((Below.refl w.heap.size w).alloc (Nat.le_refl _) o) hb
/-- a table in its box -/
theorem BlkN.tab {w : World} {b : Nat} {t : Tb} (h : BlkN w b (fT t)) : w.cell? ⟨b, 0, none⟩ = some (.int .i64 t.id) ∧ w.cell? ⟨b, 1, none⟩ = some (.string t.nm) ∧ w.cell? ⟨b, 2, none⟩ = some (.int .i64 t.key) ∧ w.cell? ⟨b, 3, none⟩ = some (.int .i64 t.nx) ∧ w.cell? ⟨b, 4, none⟩ = some (.slice t.A t.cols.length t.cap) :=
  ⟨h 0 _ rfl, h 1 _ rfl, h 2 _ rfl, h 3 _ rfl, h 4 _ rfl⟩
theorem BlkN.col {w : World} {b : Nat} {c : Cb} (h : BlkN w b (fC c)) : w.cell? ⟨b, 0, none⟩ = some (.int .i64 c.id) ∧ w.cell? ⟨b, 1, none⟩ = some (.string c.nm) ∧ w.cell? ⟨b, 2, none⟩ = some (.int .i64 c.tk) ∧ w.cell? ⟨b, 3, none⟩ = some (.int .i64 c.tm) ∧
    w.cell? ⟨b, 4, none⟩ = some (.bool c.nl) ∧ w.cell? ⟨b, 5, none⟩ = some (.int .i64 c.dk) ∧ w.cell? ⟨b, 6, none⟩ = some (.int .i64 c.dn) ∧ w.cell? ⟨b, 7, none⟩ = some (.string c.ds) :=
  ⟨h 0 _ rfl, h 1 _ rfl, h 2 _ rfl, h 3 _ rfl, h 4 _ rfl, h 5 _ rfl, h 6 _ rfl, h 7 _ rfl⟩
theorem BlkN.fld {w : World} {b : Nat} {f : Fb} (h : BlkN w b (fF f)) : w.cell? ⟨b, 0, none⟩ = some (.string f.nm) ∧ w.cell? ⟨b, 1, none⟩ = some (.int .i64 f.k) ∧ w.cell? ⟨b, 2, none⟩ = some (.int .i64 f.n) ∧ w.cell? ⟨b, 3, none⟩ = some (.string f.s) :=
  ⟨h 0 _ rfl, h 1 _ rfl, h 2 _ rfl, h 3 _ rfl⟩
theorem BlkN.one {w : World} {b : Nat} {v : Value} (h : BlkN w b [v]) : w.cell? ⟨b, 0, none⟩ = some v := h 0 _ rfl

end Go.Proofs.YthmjgaekcghonaaGreatDoor

/-
  Rows of values of the call's own: a whole row appended, a value stored in its place.
-/
namespace Go.Proofs.YthmjgaekcghonaaGreatDoor
open Go.RowKit

theorem P3_length (l : List Vb) : (P3 l).length = l.length * 3 := by
  induction l with
  | nil => rfl
  | cons x r ih => simp [P3, ih]; omega
theorem P3_all : ∀ {vs : List Vb} {Q : Nat → Value → Prop}, (∀ i t, vs[i]? = some t → Q (i * 3) (.int .i64 t.1) ∧ Q (i * 3 + 1) (.int .i64 t.2.1) ∧ Q (i * 3 + 2) (.string t.2.2)) → ∀ j u, (P3 vs)[j]? = some u → Q j u
  | [], _, _, j, u, hj => by simp [P3] at hj
  | x :: r, Q, h, 0, u, hj => by simp [P3] at hj; subst hj; exact (h 0 x rfl).1
  | x :: r, Q, h, 1, u, hj => by simp [P3] at hj; subst hj; exact (h 0 x rfl).2.1
  | x :: r, Q, h, 2, u, hj => by simp [P3] at hj; subst hj; exact (h 0 x rfl).2.2
  | x :: r, Q, h, j + 3, u, hj => by
    refine P3_all (vs := r) (Q := fun j u => Q (j + 3) u) (fun i t hi => ?_) j u (by simpa [P3] using hj)
    have := h (i + 1) t (by simpa using hi)
    rw [show (i + 1) * 3 = i * 3 + 3 by omega, show i * 3 + 3 + 1 = i * 3 + 1 + 3 by omega, show i * 3 + 3 + 2 = i * 3 + 2 + 3 by omega] at this
    exact this
theorem P3_set : ∀ (l : List Vb) (k : Nat) (t : Vb), P3 (l.set k t) = (((P3 l).set (k * 3) (.int .i64 t.1)).set (k * 3 + 1) (.int .i64 t.2.1)).set (k * 3 + 2) (.string t.2.2)
  | [], k, t => by simp [P3]
  | x :: r, 0, t => by simp [P3]
  | x :: r, k + 1, t => by
    rw [show (k + 1) * 3 = k * 3 + 1 + 1 + 1 by omega, show k * 3 + 1 + 1 + 1 + 1 = k * 3 + 1 + 1 + 1 + 1 by omega, show k * 3 + 1 + 1 + 1 + 2 = k * 3 + 2 + 1 + 1 + 1 by omega]
    simp [P3, P3_set r k t]
/-- a value stored in its place -/
theorem OwnV.set3 {w : World} {base g cap : Nat} {l : List Vb} (h : OwnV w base (.slice (some ⟨g, 0, none⟩) l.length cap) l) (k : Nat) (t : Vb) :
    OwnV (((w.setCell ⟨g, k * 3, none⟩ (.int .i64 t.1)).setCell ⟨g, k * 3 + 1, none⟩ (.int .i64 t.2.1)).setCell ⟨g, k * 3 + 2, none⟩ (.string t.2.2)) base (.slice (some ⟨g, 0, none⟩) l.length cap) (l.set k t) := by
  unfold OwnV
  rw [List.length_set, P3_set]
  exact (World.ownsRow.stored (World.ownsRow.stored (World.ownsRow.stored h (k * 3) _).1 (k * 3 + 1) _).1 (k * 3 + 2) _).1
/-- the shape of a row of the call's own that is not empty -/
theorem OwnV.shape {w : World} {base : Nat} {v : Value} {l : List Vb} (h : OwnV w base v l) (hl : 0 < l.length) : ∃ g cap, v = .slice (some ⟨g, 0, none⟩) l.length cap ∧ base ≤ g ∧ g < w.heap.size ∧ l.length ≤ cap := by
  rcases h.2 with ⟨_, h0⟩ | ⟨g, cap, cur, rfl, hb, hg, hc, _⟩
  · omega
  · exact ⟨g, cap, rfl, hb, (Array.getElem?_eq_some_iff.1 hg).1, hc⟩
theorem OwnV.lit0 (w : World) (base : Nat) (hb : base ≤ w.heap.size) : OwnV (w.alloc (.cells #[] 28)) base (.slice (some ⟨w.heap.size, 0, none⟩) 0 0) [] :=
  World.ownsRow_lit w #[] 0 hb (by unfold maxLen; omega) rfl
end Go.Proofs.YthmjgaekcghonaaGreatDoor

/-
  The mathematics of keys (layer 7): the most significant bit turned; bytes put and read, the most significant one first.
-/
namespace Go.Proofs.YthmjgaekcghonaaGreatDoor
open Go.RowKit

theorem xor_hi (k r : Nat) (h : r < 2 ^ k) : r ^^^ 2 ^ k = r + 2 ^ k := by
  apply Nat.eq_of_testBit_eq
  intro i
  have e := Nat.testBit_two_pow_mul_add 1 h i
  rw [Nat.mul_one] at e
  rw [Nat.testBit_xor, Nat.add_comm r, e, Nat.testBit_two_pow]
  by_cases hi : i < k
  · simp [hi, show ¬ k = i by omega]
  · rw [if_neg hi, Nat.testBit_lt_two_pow (Nat.lt_of_lt_of_le h (Nat.pow_le_pow_right (by omega) (show k ≤ i by omega)))]
    by_cases hk : k = i
    · subst hk; simp
    · have : (1 : Nat).testBit (i - k) = false := Nat.testBit_lt_two_pow (Nat.one_lt_two_pow (by omega))
      simp [hk, this]
/-- the bit above k bits turned -/
theorem xor_top (k r : Nat) (h : r < 2 ^ (k + 1)) : r ^^^ 2 ^ k = (r + 2 ^ k) % 2 ^ (k + 1) := by
  rw [Nat.pow_succ] at h ⊢
  by_cases h1 : r < 2 ^ k
  · rw [xor_hi k r h1]
    generalize 2 ^ k = P at *
    rw [Nat.mod_eq_of_lt (by omega)]
  · obtain ⟨q, rfl⟩ : ∃ q, r = q + 2 ^ k := ⟨r - 2 ^ k, by omega⟩
    have hq : q < 2 ^ k := by omega
    have e := xor_hi k q hq
    rw [← e, Nat.xor_assoc, Nat.xor_self, Nat.xor_zero, e]
    generalize 2 ^ k = P at *
    rw [show q + P + P = q + P * 2 by omega, Nat.add_mod_right, Nat.mod_eq_of_lt (by omega)]
theorem be_mod (w n : Nat) : be w n = be w (n % 256 ^ w) := by
  induction w generalizing n with
  | zero => rfl
  | succ w ih =>
    rw [be_succ, be_succ]
    have e : n % 256 ^ (w + 1) / 256 ^ w % 256 = n / 256 ^ w % 256 := by
      rw [Nat.pow_succ, Nat.mod_mul_right_div_self, Nat.mod_mod]
    have e2 : be w (n % 256 ^ (w + 1)) = be w n := by
      rw [ih (n % 256 ^ (w + 1)), Nat.mod_mod_of_dvd _ ⟨256, by rw [Nat.pow_succ]⟩, ← ih n]
    rw [e, e2]
theorem be_at (w n : Nat) : ∀ j, j < w → (be w n)[j]? = some (UInt8.ofNat (n / 256 ^ (w - 1 - j) % 256)) := by
  induction w with
  | zero => intro j hj; omega
  | succ w ih =>
    intro j hj
    rw [be_succ]
    cases j with
    | zero => simp
    | succ j => rw [List.getElem?_cons_succ, ih j (by omega), show w + 1 - 1 - (j + 1) = w - 1 - j by omega]
theorem be_take (w n k : Nat) (hk : k < w) : (be w n).take (w - k) = (be w n).take (w - (k + 1)) ++ [UInt8.ofNat (n / 256 ^ k % 256)] := by
  have h := be_at w n (w - (k + 1)) (by omega)
  rw [show w - 1 - (w - (k + 1)) = k by omega] at h
  obtain ⟨h1, h2⟩ := List.getElem?_eq_some_iff.1 h
  rw [show w - k = w - (k + 1) + 1 by omega, List.take_succ_eq_append_getElem h1, h2]

/-- the number that is written for one of 32 bits -/
theorem put4 (n : Int) (h1 : -2147483648 ≤ n) (h2 : n < 2147483648) : ∃ W : Nat, bits .xor .u64 (IntKind.u64.wrap n) 2147483648 = (W : Int) ∧ W < 18446744073709551616 ∧ be 4 W = be 4 (n + 2147483648).toNat := by
  rw [IntKind.wrap_u64]
  obtain ⟨x, hx⟩ := Int.eq_ofNat_of_zero_le (a := n % 18446744073709551616) (by omega)
  rw [hx]
  refine ⟨x ^^^ 2147483648, bits_xor_u64_nat x 2147483648 (by omega) (by omega), Nat.xor_lt_two_pow (n := 64) (by omega) (by omega), ?_⟩
  rw [be_mod 4 (x ^^^ 2147483648)]
  have e : (x ^^^ 2147483648) % 256 ^ 4 = (n + 2147483648).toNat := by
    show (x ^^^ 2147483648) % 2 ^ 32 = _
    rw [Nat.xor_mod_two_pow]
    show x % 2 ^ 32 ^^^ 2 ^ 31 = _
    rw [xor_top 31 _ (Nat.mod_lt _ (by omega))]
    simp only [Nat.reducePow, Nat.reduceAdd]
    omega
  rw [e]
/-- the number that is written for one of 64 bits -/
theorem put8 (n : Int) (h1 : -9223372036854775808 ≤ n) (h2 : n < 9223372036854775808) : ∃ W : Nat, bits .xor .u64 (IntKind.u64.wrap n) 9223372036854775808 = (W : Int) ∧ W < 18446744073709551616 ∧ be 8 W = be 8 (n + 9223372036854775808).toNat := by
  rw [IntKind.wrap_u64]
  obtain ⟨x, hx⟩ := Int.eq_ofNat_of_zero_le (a := n % 18446744073709551616) (by omega)
  rw [hx]
  refine ⟨x ^^^ 9223372036854775808, bits_xor_u64_nat x 9223372036854775808 (by omega) (by omega), Nat.xor_lt_two_pow (n := 64) (by omega) (by omega), ?_⟩
  have e : x ^^^ 9223372036854775808 = (n + 9223372036854775808).toNat := by
    show x ^^^ 2 ^ 63 = _
    rw [xor_top 63 _ (by simp only [Nat.reducePow, Nat.reduceAdd]; omega)]
    simp only [Nat.reducePow, Nat.reduceAdd]
    omega
  rw [e]

theorem unbe_snoc (l : List UInt8) (c : UInt8) : unbe (l ++ [c]) = unbe l * 256 + c.toNat := by
  unfold unbe
  rw [List.reverse_append]
  show unle (c :: l.reverse) = _
  rw [unle]; omega
theorem unbe_take {l : List UInt8} {k : Nat} {c : UInt8} (h : l[k]? = some c) : unbe (l.take (k + 1)) = unbe (l.take k) * 256 + c.toNat := by
  obtain ⟨h1, rfl⟩ := List.getElem?_eq_some_iff.1 h
  rw [List.take_succ_eq_append_getElem h1, unbe_snoc]
theorem unbe_lt (l : List UInt8) : unbe l < 256 ^ l.length := by
  have := unle_lt l.reverse
  rw [List.length_reverse] at this; exact this
/-- one byte more, the most significant one first, as the program puts it -/
theorem or_low (x c : Nat) (hc : c < 256) (hx : x < 72057594037927936) : bits BinOp.or IntKind.u64 (IntKind.u64.wrap ((x : Int) * 256)) (c : Int) = ((x * 256 + c : Nat) : Int) := by
  rw [IntKind.wrap_u64, show ((x : Int) * 256) % 18446744073709551616 = ((x * 256 : Nat) : Int) by omega, u64_or_nat _ _ (by omega) (by omega), nat_join 8 _ _ (by omega) (by simpa using hc)]
theorem get4 (x : Nat) (h : x < 4294967296) : IntKind.i32.wrap ((x ^^^ 2147483648 : Nat) : Int) = (x : Int) - 2147483648 := by
  have e := xor_top 31 x h
  simp only [Nat.reducePow, Nat.reduceAdd] at e
  rw [e]
  simp [IntKind.wrap, IntKind.bits, IntKind.signed]; omega
theorem get8 (x : Nat) (h : x < 18446744073709551616) : IntKind.i64.wrap ((x ^^^ 9223372036854775808 : Nat) : Int) = (x : Int) - 9223372036854775808 := by
  have e := xor_top 63 x h
  simp only [Nat.reducePow, Nat.reduceAdd] at e
  rw [e, wrap_i64_eq]
  omega
end Go.Proofs.YthmjgaekcghonaaGreatDoor

/-
  Contracts of package sortkey: topBit, appendNumber, appendString, appendKey.
-/
namespace Go.Proofs.YthmjgaekcghonaaGreatDoor
open Go.RowKit

theorem esc_append : ∀ (a b : List UInt8), esc (a ++ b) = esc a ++ esc b
  | [], b => rfl
  | c :: r, b => by
    have ih := esc_append r b
    by_cases h : c = 0 <;> simp [esc, h, ih]
theorem esc_len : ∀ l : List UInt8, (esc l).length ≤ 2 * l.length
  | [] => by simp [esc]
  | c :: r => by
    have ih := esc_len r
    by_cases h : c = 0 <;> simp [esc, h] <;> omega
theorem esc_at0 {l : List UInt8} {k : Nat} {c : UInt8} (h : l[k]? = some c) (hc : c = 0) : esc (l.take (k + 1)) = esc (l.take k) ++ [c] ++ [255] := by
  obtain ⟨h1, rfl⟩ := List.getElem?_eq_some_iff.1 h
  rw [List.take_succ_eq_append_getElem h1, esc_append, hc]; simp [esc]
theorem esc_at1 {l : List UInt8} {k : Nat} {c : UInt8} (h : l[k]? = some c) (hc : c ≠ 0) : esc (l.take (k + 1)) = esc (l.take k) ++ [c] := by
  obtain ⟨h1, rfl⟩ := List.getElem?_eq_some_iff.1 h
  rw [List.take_succ_eq_append_getElem h1, esc_append]; simp [esc, hc]
/-- two bytes appended -/
theorem wpList_append_byte2 {w : World} {ops : Array Oper} {rest : List Oper} {o : Oper} {a : Act} {Q : Exit → Act → World → Prop} (hgd : o.guard = none) (s x : Operand)
    (ho : o.op = .call { callee := .builtin .append, args := #[s, x], argTypes := #[137, 137] })
    (base : Nat) (v : Value) (l : List UInt8) (c d : UInt8) (z y : Int)
    (hown : OwnB w base v l) (hs : a.eval s = v) (hx : a.eval x = .slice (some ⟨w.heap.size, 0, none⟩) 2 2) (hz : z = (c.toNat : Int)) (hy : y = (d.toNat : Int)) (hlen : l.length < 1099511627000) (hbase : base ≤ w.heap.size)
    (h : ∀ v' w', OwnB w' base v' (l ++ [c, d]) → Below base w w' → wpList Tryz.prog ops Q rest (a.put o.dst v') w') :
    wpList Tryz.prog ops Q (o :: rest) a (w.alloc (.cells #[.int .u8 z, .int .u8 y] 5)) := by
  subst hz hy
  obtain ⟨i0, hi, hz0, hz1, hz2⟩ := info_parts info8
  refine wpList_append_own _ hgd s x 137 ho base 5 i0 (.int .u8 0) 1 1 Tryz.underlying137 hi hz0 hz1 hz2 rfl (by decide) v l.length (B8 l) hs (World.ownsRow.alloc hown _)
    ⟨w.heap.size, 0, none⟩ 2 2 [.int .u8 (c.toNat : Int), .int .u8 (d.toNat : Int)] hx rfl (fun j u hj => ?_) (fun u hu => ?_) (by unfold maxLen; omega) (by omega) (by simp; omega) ?_
  · match j, hj with
    | 0, hj => simp at hj; subst hj; simp [Addr.add]
    | 1, hj => simp at hj; subst hj; simp [Addr.add]
    | j + 2, hj => simp at hj
  · simp at hu; rcases hu with rfl | rfl <;> rfl
  · intro v' w' h1 h2 _
    refine h v' w' ?_ (((Below.refl base w).alloc hbase _).grown h2 (by simp; omega) (fun k hk => ?_))
    · unfold OwnB
      rw [B8_append, List.length_append]
      exact h1
    · exact ((World.ownsRow.lt hown) k hk).1
theorem u8_zero {c : UInt8} (h : c.toNat = 0) : c = 0 := UInt8.toNat_inj.1 h
theorem u8_nonzero {c : UInt8} (h : ¬ c.toNat = 0) : c ≠ 0 := fun e => h (by rw [e]; rfl)

/-- one byte appended, while a block of three cells lies aside -/
theorem wpList_append_byte_keep {w : World} {ops : Array Oper} {rest : List Oper} {o : Oper} {a : Act} {Q : Exit → Act → World → Prop} (hgd : o.guard = none) (s x : Operand)
    (ho : o.op = .call { callee := .builtin .append, args := #[s, x], argTypes := #[137, 137] })
    (base : Nat) (v : Value) (l : List UInt8) (c : UInt8) (z : Int) (b g : Nat) (x0 x1 x2 : Value)
    (hown : OwnB w base v l) (hs : a.eval s = v) (hx : a.eval x = .slice (some ⟨g, 0, none⟩) 1 1) (hg : g = w.heap.size) (hz : z = (c.toNat : Int)) (hlen : l.length < 1099511627776) (hbase : base ≤ w.heap.size)
    (hk : Blk3 w b x0 x1 x2) (hlt : b < w.heap.size) (hne : some b ≠ v.ownBlock)
    (h : ∀ v' w', OwnB w' base v' (l ++ [c]) → Below base w w' → Blk3 w' b x0 x1 x2 → b < w'.heap.size → wpList Tryz.prog ops Q rest (a.put o.dst v') w') :
    wpList Tryz.prog ops Q (o :: rest) a (w.alloc (.cells #[.int .u8 z] 5)) := by
  subst hz hg
  obtain ⟨i0, hi, hz0, hz1, hz2⟩ := info_parts info8
  refine wpList_append_own _ hgd s x 137 ho base 5 i0 (.int .u8 0) 1 1 Tryz.underlying137 hi hz0 hz1 hz2 rfl (by decide) v l.length (B8 l) hs (World.ownsRow.alloc hown _)
    ⟨w.heap.size, 0, none⟩ 1 1 [.int .u8 (c.toNat : Int)] hx rfl (fun j u hj => ?_) (fun u hu => ?_) (by unfold maxLen; omega) (by omega) (by simp; omega) ?_
  · match j, hj with
    | 0, hj => simp at hj; subst hj; simp [Addr.add]
  · simp at hu; subst hu; rfl
  · intro v' w' h1 h2 _
    have hsz := h2.size
    simp at hsz
    have q : ∀ i, w'.cell? ⟨b, i, none⟩ = w.cell? ⟨b, i, none⟩ ∧ w'.frozen? ⟨b, i, none⟩ = w.frozen? ⟨b, i, none⟩ := fun i => by
      have h3 := (Below.refl w.heap.size w).alloc (Nat.le_refl _) (.cells #[.int .u8 (c.toNat : Int)] 5)
      have e := h2.block b (by simp; omega) hne
      exact ⟨(World.cell?_of_block (w := w.alloc (.cells #[.int .u8 (c.toNat : Int)] 5)) e).trans (h3.cell (p := ⟨b, i, none⟩) hlt), (World.frozen?_of_block (w := w.alloc (.cells #[.int .u8 (c.toNat : Int)] 5)) e).trans (h3.frozen (p := ⟨b, i, none⟩) hlt)⟩
    obtain ⟨c0, c1, c2, f0, f1, f2⟩ := hk
    refine h v' w' ?_ (((Below.refl base w).alloc hbase _).grown h2 (by simp; omega) (fun k hk => ?_)) ⟨(q 0).1.trans c0, (q 1).1.trans c1, (q 2).1.trans c2, (q 0).2.trans f0, (q 1).2.trans f1, (q 2).2.trans f2⟩ (by omega)
    · unfold OwnB
      rw [B8_append, List.length_append]
      exact h1
    · exact ((World.ownsRow.lt hown) k hk).1
/-- the key of a value lies behind the row -/
def PutKey (w : World) (B : Nat) (l : List UInt8) (e : Ending) (w' : World) : Prop := ∃ v', e = .returned v' ∧ OwnB w' B v' l ∧ Below B w w'
theorem own_far {w : World} {B : Nat} {v : Value} {l : List UInt8} (h : OwnB w B v l) : some w.heap.size ≠ v.ownBlock := fun e => by
  have := (World.ownsRow.lt h _ e.symm).2
  omega
theorem kind_byte {k : Int} (c : UInt8) (h : (c.toNat : Int) = k) (h2 : 0 ≤ k ∧ k < 256) : k % 256 = (c.toNat : Int) := by omega

end Go.Proofs.YthmjgaekcghonaaGreatDoor

/-
  Contract of package sortkey's Of.
-/
namespace Go.Proofs.YthmjgaekcghonaaGreatDoor
open Go.RowKit

theorem bthen {w a b : World} (h : Below w.heap.size w a) (h2 : Below a.heap.size a b) : Below w.heap.size w b := h.trans (h2.mono h.size)
theorem new_lt' {w w1 : World} {o : Obj} (hb : Below (w.alloc o).heap.size (w.alloc o) w1) : w.heap.size < w1.heap.size := by have := hb.size; simp at this; omega
/-- are all of them right? -/
def allR (l : List Vl) : Bool := l.all rightL
theorem allR_take {l : List Vl} (h : allR l = true) (k : Nat) : allR (l.take k) = true := by
  unfold allR at *
  rw [List.all_eq_true] at *
  exact fun x hx => h x (List.mem_of_mem_take hx)
theorem allR_not {l : List Vl} {k : Nat} {v : Vl} (hk : l[k]? = some v) (hv : rightL v = false) : allR l = false := by
  cases h : allR l with
  | false => rfl
  | true =>
    unfold allR at h
    rw [List.all_eq_true] at h
    have := h v (List.mem_of_getElem? hk)
    rw [hv] at this; cases this
theorem allR_of {l : List Vl} (h : ∀ (k : Nat) v, l[k]? = some v → rightL v = true) : allR l = true := by
  unfold allR
  rw [List.all_eq_true]
  intro x hx
  obtain ⟨k, hk⟩ := List.mem_iff_getElem?.1 hx
  exact h k x hk
/-- what Of returns -/
def ofV (l : List Vl) : Value := if allR l then .tuple #[.string ⟨(ofK l).toArray⟩, .int .i64 0] else .tuple #[.string ⟨#[]⟩, .int .i64 2]
theorem key_len {k n : Int} {l : List UInt8} (h : rightV k n l = true) : (key k n l).length ≤ 243 := by
  rcases rightV_form h with ⟨rfl, rfl, rfl⟩ | ⟨rfl, p1, p2, rfl⟩ | ⟨rfl, rfl⟩ | ⟨rfl, rfl, hl, hs⟩ | ⟨rfl, rfl, hl⟩
  · simp [key_0]
  · rw [key_1, List.length_cons, be_length]; omega
  · rw [key_2, List.length_cons, be_length]; omega
  · have := esc_len l
    rw [key_3, List.length_cons, List.length_append]; simp; omega
  · have := esc_len l
    rw [key_4, List.length_cons, List.length_append]; simp; omega
theorem ofK_len : ∀ {l : List Vl}, allR l = true → (ofK l).length ≤ 243 * l.length
  | [], _ => by simp [ofK]
  | v :: l, h => by
    have h' : rightL v = true ∧ allR l = true := by simpa [allR] using h
    have ih := ofK_len h'.2
    have := key_len (k := v.1) (n := v.2.1) (l := v.2.2) h'.1
    rw [ofK_cons, List.length_append, List.length_cons]
    unfold keyL; omega
theorem ofK_take {l : List Vl} {k : Nat} {v : Vl} (h : l[k]? = some v) : ofK (l.take (k + 1)) = ofK (l.take k) ++ keyL v := by
  obtain ⟨h1, rfl⟩ := List.getElem?_eq_some_iff.1 h
  rw [List.take_succ_eq_append_getElem h1, ofK_snoc]

end Go.Proofs.YthmjgaekcghonaaGreatDoor

/-
  Contracts of package schema's generic 'first', at tables, columns and fields, for whatever function it is handed.
-/
namespace Go.Proofs.YthmjgaekcghonaaGreatDoor
open Go.RowKit

set_option maxRecDepth 100000 in
set_option maxHeartbeats 800000 in
theorem firstT_any (A : Option Addr) (cp : Nat) (l : List Tb) (F : Nat) (caps : Array Value) (p : Tb → Bool) (w : World) (hA : TabsAt w w.heap.size A l) (hl : l.length ≤ 1000000)
    (hF : ∀ args w, (callFunc F args).run Tryz.prog w = .ok (.enter F args) w)
    (hcall : ∀ x ∈ l, ∀ w', Below w.heap.size w w' → Calls Tryz.prog F (#[TV x] ++ caps) w' fun e w2 => e = .returned (.bool (p x)) ∧ Below w'.heap.size w' w2) :
    Calls Tryz.prog 56 #[.slice A l.length cp, .func (.func F) #[] caps] w fun e w' => e = .returned (fstV (l.findIdx? p)) ∧ Below w.heap.size w w' := by
  have HA := Lib.hid hA; clear hA
  have HC := Lib.hid hcall; clear hcall
  go_enter Tryz.func56, Tryz.ntmps56
  go_wp2_with fail
  go_loopw [10] (fun i wr => ∃ k : Nat, k ≤ l.length ∧ i = .int .i64 k ∧ Hid (∀ j x, l[j]? = some x → j < k → p x = false) ∧ Below w.heap.size w wr) (fun i _ => l.length - (intOf i).toNat)
  case atStart => exact ⟨0, by omega, rfl, fun j v _ h => absurd h (by omega), Below.refl _ _⟩
  case round =>
    obtain ⟨k, hk, rfl, hall, hb⟩ := hrel
    have hsz2 := hb.size
    by_cases hlt : k < l.length
    · obtain ⟨x, hx⟩ : ∃ x, l[k]? = some x := ⟨l[k], by simp [hlt]⟩
      have Hx := Lib.hid hx
      obtain ⟨b, off, rfl, hbB, c0, c1, c2, c3, c4⟩ := (HA.out.below hb).get k x hx
      have Hcl := Lib.hid (HC.out x (List.mem_of_getElem? hx))
      have hbn := hb.trans (((Below.refl wr.heap.size wr).alloc (Nat.le_refl _) (.cells (fT x).toArray 51)).mono hsz2)
      have Hbn := Lib.hid hbn; clear hbn hx
      cases hp : p x
      · rw [hp] at Hcl
        have Hall : Hid (∀ j x, l[j]? = some x → j < k + 1 → p x = false) := fun j y hj hk => by
          by_cases e : j = k
          · subst e
            rw [Hx.out] at hj
            cases hj
            exact hp
          · exact hall.out j y hj (by omega)
        clear hp
        go_wp2_with fail
        refine (Hcl.out _ Hbn.out).mono ?_
        rintro e w1 ⟨rfl, hb1⟩
        have Hb1 := Lib.hid (bthen Hbn.out hb1); clear hb1
        go_wp2_with fail
        go_roundw
        case rel => exact ⟨k + 1, by omega, by go_num, Hall.out, Hb1.out⟩
        case measure => simp [intOf]; omega
      · rw [hp] at Hcl
        have Hfi : Hid (l.findIdx? p = some k) := find_at hall.out Hx.out hp
        clear hp
        go_wp2_with fail
        refine (Hcl.out _ Hbn.out).mono ?_
        rintro e w1 ⟨rfl, hb1⟩
        have Hb1 := Lib.hid (bthen Hbn.out hb1); clear hb1
        go_wp2_with fail
        go_ret2
        exact ⟨by rw [Hfi.out]; rfl, Hb1.out⟩
    · have Hfi : Hid (l.findIdx? p = none) := find_no fun j x hj => hall.out j x hj (by have := (List.getElem?_eq_some_iff.1 hj).1; omega)
      go_wp2_with fail
      go_ret2
      exact ⟨by rw [Hfi.out]; rfl, hb⟩

set_option maxRecDepth 100000 in
set_option maxHeartbeats 800000 in
theorem firstC_any (A : Option Addr) (cp : Nat) (l : List Cb) (F : Nat) (caps : Array Value) (p : Cb → Bool) (w : World) (hA : ColsAt w w.heap.size A l) (hl : l.length ≤ 1000000)
    (hF : ∀ args w, (callFunc F args).run Tryz.prog w = .ok (.enter F args) w)
    (hcall : ∀ x ∈ l, ∀ w', Below w.heap.size w w' → Calls Tryz.prog F (#[CV x] ++ caps) w' fun e w2 => e = .returned (.bool (p x)) ∧ Below w'.heap.size w' w2) :
    Calls Tryz.prog 93 #[.slice A l.length cp, .func (.func F) #[] caps] w fun e w' => e = .returned (fstV (l.findIdx? p)) ∧ Below w.heap.size w w' := by
  have HA := Lib.hid hA; clear hA
  have HC := Lib.hid hcall; clear hcall
  go_enter Tryz.func93, Tryz.ntmps93
  go_wp2_with fail
  go_loopw [10] (fun i wr => ∃ k : Nat, k ≤ l.length ∧ i = .int .i64 k ∧ Hid (∀ j x, l[j]? = some x → j < k → p x = false) ∧ Below w.heap.size w wr) (fun i _ => l.length - (intOf i).toNat)
  case atStart => exact ⟨0, by omega, rfl, fun j v _ h => absurd h (by omega), Below.refl _ _⟩
  case round =>
    obtain ⟨k, hk, rfl, hall, hb⟩ := hrel
    have hsz2 := hb.size
    by_cases hlt : k < l.length
    · obtain ⟨x, hx⟩ : ∃ x, l[k]? = some x := ⟨l[k], by simp [hlt]⟩
      have Hx := Lib.hid hx
      obtain ⟨b, off, rfl, hbB, c0, c1, c2, c3, c4, c5, c6, c7⟩ := (ColsAt.get (RowAt.below HA.out hb) k x hx)
      have Hcl := Lib.hid (HC.out x (List.mem_of_getElem? hx))
      have hbn := hb.trans (((Below.refl wr.heap.size wr).alloc (Nat.le_refl _) (.cells (fC x).toArray 63)).mono hsz2)
      have Hbn := Lib.hid hbn; clear hbn hx
      cases hp : p x
      · rw [hp] at Hcl
        have Hall : Hid (∀ j x, l[j]? = some x → j < k + 1 → p x = false) := fun j y hj hk => by
          by_cases e : j = k
          · subst e
            rw [Hx.out] at hj
            cases hj
            exact hp
          · exact hall.out j y hj (by omega)
        clear hp
        go_wp2_with fail
        refine (Hcl.out _ Hbn.out).mono ?_
        rintro e w1 ⟨rfl, hb1⟩
        have Hb1 := Lib.hid (bthen Hbn.out hb1); clear hb1
        go_wp2_with fail
        go_roundw
        case rel => exact ⟨k + 1, by omega, by go_num, Hall.out, Hb1.out⟩
        case measure => simp [intOf]; omega
      · rw [hp] at Hcl
        have Hfi : Hid (l.findIdx? p = some k) := find_at hall.out Hx.out hp
        clear hp
        go_wp2_with fail
        refine (Hcl.out _ Hbn.out).mono ?_
        rintro e w1 ⟨rfl, hb1⟩
        have Hb1 := Lib.hid (bthen Hbn.out hb1); clear hb1
        go_wp2_with fail
        go_ret2
        exact ⟨by rw [Hfi.out]; rfl, Hb1.out⟩
    · have Hfi : Hid (l.findIdx? p = none) := find_no fun j x hj => hall.out j x hj (by have := (List.getElem?_eq_some_iff.1 hj).1; omega)
      go_wp2_with fail
      go_ret2
      exact ⟨by rw [Hfi.out]; rfl, hb⟩

end Go.Proofs.YthmjgaekcghonaaGreatDoor

/-
  Contracts of package schema's Find, ById, Col, Key, hasField and of their function literals.
-/
namespace Go.Proofs.YthmjgaekcghonaaGreatDoor
open Go.RowKit

theorem keep_alloc {w : World} {a : Addr} {v : Value} (h : w.cell? a = some v) (o : Obj) : (w.alloc o).cell? a = some v :=
  (((Below.refl w.heap.size w).alloc (Nat.le_refl _) o).cell (World.block_lt_of_cell? w a h)).trans h
theorem below_two (w : World) (o o2 : Obj) : Below w.heap.size w ((w.alloc o).alloc o2) := ((Below.refl _ _).alloc (Nat.le_refl _) o).alloc (by simp) o2
theorem below_one (w : World) (o : Obj) : Below w.heap.size w (w.alloc o) := (Below.refl _ _).alloc (Nat.le_refl _) o

theorem find1_any (x : Tb) (b : Nat) (s : ByteArray) (w : World) (hc : w.cell? ⟨b, 0, none⟩ = some (.string s)) :
    Calls Tryz.prog 67 #[TV x, .pointer (some ⟨b, 0, none⟩)] w fun e w' => e = .returned (.bool (eqS x.nm s)) ∧ Below w.heap.size w w' := by
  have hk := keep_alloc hc
  go_enter Tryz.func67, Tryz.ntmps67
  go_wp2_with fail
  go_ret
  exact ⟨rfl, by go_grown⟩
theorem byId1_any (x : Tb) (b : Nat) (s : Int) (w : World) (hc : w.cell? ⟨b, 0, none⟩ = some (.int .i64 s)) :
    Calls Tryz.prog 109 #[TV x, .pointer (some ⟨b, 0, none⟩)] w fun e w' => e = .returned (.bool (x.id == s)) ∧ Below w.heap.size w w' := by
  have hk := keep_alloc hc
  go_enter Tryz.func109, Tryz.ntmps109
  go_wp2_with fail
  go_ret
  exact ⟨rfl, by go_grown⟩
theorem col1_any (x : Cb) (b : Nat) (s : ByteArray) (w : World) (hc : w.cell? ⟨b, 0, none⟩ = some (.string s)) :
    Calls Tryz.prog 94 #[CV x, .pointer (some ⟨b, 0, none⟩)] w fun e w' => e = .returned (.bool (eqS x.nm s)) ∧ Below w.heap.size w w' := by
  have hk := keep_alloc hc
  go_enter Tryz.func94, Tryz.ntmps94
  go_wp2_with fail
  go_ret
  exact ⟨rfl, by go_grown⟩
theorem key1_any (x : Cb) (b : Nat) (s : Int) (w : World) (hc : w.cell? ⟨b, 2, none⟩ = some (.int .i64 s)) :
    Calls Tryz.prog 108 #[CV x, .pointer (some ⟨b, 0, none⟩)] w fun e w' => e = .returned (.bool (x.id == s)) ∧ Below w.heap.size w w' := by
  have hk := keep_alloc hc
  go_enter Tryz.func108, Tryz.ntmps108
  go_wp2_with fail
  go_ret
  exact ⟨rfl, by go_grown⟩
theorem entersFind : ∀ args w, (callFunc 67 args).run Tryz.prog w = .ok (.enter 67 args) w := Go.Proofs.enters_of Tryz.func67 (by kernel_rfl) rfl
theorem entersById : ∀ args w, (callFunc 109 args).run Tryz.prog w = .ok (.enter 109 args) w := Go.Proofs.enters_of Tryz.func109 (by kernel_rfl) rfl
theorem entersCol : ∀ args w, (callFunc 94 args).run Tryz.prog w = .ok (.enter 94 args) w := Go.Proofs.enters_of Tryz.func94 (by kernel_rfl) rfl
theorem entersKey : ∀ args w, (callFunc 108 args).run Tryz.prog w = .ok (.enter 108 args) w := Go.Proofs.enters_of Tryz.func108 (by kernel_rfl) rfl
theorem fstV_eq (o : Option Nat) : ∃ (i : Int) (b : Bool), fstV o = .tuple #[.int .i64 i, .bool b] := ⟨_, _, rfl⟩

set_option maxRecDepth 100000 in
theorem sfind_any (A : Option Addr) (cp : Nat) (l : List Tb) (s : ByteArray) (w : World) (hA : TabsAt w w.heap.size A l) (hl : l.length ≤ 1000000) :
    Calls Tryz.prog 40 #[.agg #[.slice A l.length cp], .string s] w fun e w' => e = .returned (fstV (l.findIdx? fun x => eqS x.nm s)) ∧ Below w.heap.size w w' := by
  have HA := Lib.hid hA; clear hA
  have hmf : ∀ (fn : Fn) (first cap : Array Value) (w : World), (Instr.makeFunc fn first cap).run Tryz.prog w = .ok (.func fn first cap) w := fun _ _ _ _ => rfl
  have hb2 := Lib.hid (below_two w (.cells #[.slice A l.length cp] 24) (.cells #[.string s] 9))
  have hc2 : Hid (((w.alloc (.cells #[.slice A l.length cp] 24)).alloc (.cells #[.string s] 9)).cell? ⟨w.heap.size + 1, 0, none⟩ = some (.string s)) := by show _ = _; simp
  go_enter Tryz.func40, Tryz.ntmps40
  go_wp2_with fail
  refine (firstT_any A cp l 67 #[.pointer (some ⟨w.heap.size + 1, 0, none⟩)] (fun x => eqS x.nm s) _ (HA.out.to hb2.out) hl entersFind (fun x _ w' hb' => find1_any x _ s w' ((hb'.cell (by simp)).trans hc2.out))).mono ?_
  rintro e w1 ⟨rfl, hb1⟩
  have Hb1 := Lib.hid (bthen hb2.out hb1); clear hb1
  obtain ⟨i, b, hfi⟩ := fstV_eq (l.findIdx? fun x => eqS x.nm s)
  have Hfi := Lib.hid hfi
  rw [hfi]; clear hfi
  go_wp2_with fail
  go_ret2
  exact ⟨by rw [Hfi.out]; rfl, Hb1.out⟩
set_option maxRecDepth 100000 in
theorem sbyId_any (A : Option Addr) (cp : Nat) (l : List Tb) (s : Int) (w : World) (hA : TabsAt w w.heap.size A l) (hl : l.length ≤ 1000000) :
    Calls Tryz.prog 87 #[.agg #[.slice A l.length cp], .int .i64 s] w fun e w' => e = .returned (fstV (l.findIdx? fun x => x.id == s)) ∧ Below w.heap.size w w' := by
  have HA := Lib.hid hA; clear hA
  have hmf : ∀ (fn : Fn) (first cap : Array Value) (w : World), (Instr.makeFunc fn first cap).run Tryz.prog w = .ok (.func fn first cap) w := fun _ _ _ _ => rfl
  have hb2 := Lib.hid (below_two w (.cells #[.slice A l.length cp] 24) (.cells #[.int .i64 s] 3))
  have hc2 : Hid (((w.alloc (.cells #[.slice A l.length cp] 24)).alloc (.cells #[.int .i64 s] 3)).cell? ⟨w.heap.size + 1, 0, none⟩ = some (.int .i64 s)) := by show _ = _; simp
  go_enter Tryz.func87, Tryz.ntmps87
  go_wp2_with fail
  refine (firstT_any A cp l 109 #[.pointer (some ⟨w.heap.size + 1, 0, none⟩)] (fun x => x.id == s) _ (HA.out.to hb2.out) hl entersById (fun x _ w' hb' => byId1_any x _ s w' ((hb'.cell (by simp)).trans hc2.out))).mono ?_
  rintro e w1 ⟨rfl, hb1⟩
  have Hb1 := Lib.hid (bthen hb2.out hb1); clear hb1
  obtain ⟨i, b, hfi⟩ := fstV_eq (l.findIdx? fun x => x.id == s)
  have Hfi := Lib.hid hfi
  rw [hfi]; clear hfi
  go_wp2_with fail
  go_ret2
  exact ⟨by rw [Hfi.out]; rfl, Hb1.out⟩
set_option maxRecDepth 100000 in
theorem scol_any (t : Tb) (s : ByteArray) (w : World) (hA : TabAt w w.heap.size t) (hl : t.cols.length ≤ 1000000) :
    Calls Tryz.prog 70 #[TV t, .string s] w fun e w' => e = .returned (fstV (colI t s)) ∧ Below w.heap.size w w' := by
  have HA := Lib.hid hA; clear hA
  have hmf : ∀ (fn : Fn) (first cap : Array Value) (w : World), (Instr.makeFunc fn first cap).run Tryz.prog w = .ok (.func fn first cap) w := fun _ _ _ _ => rfl
  have hb2 := Lib.hid (below_two w (.cells (fT t).toArray 51) (.cells #[.string s] 9))
  have hc2 : Hid (((w.alloc (.cells (fT t).toArray 51)).alloc (.cells #[.string s] 9)).cell? ⟨w.heap.size + 1, 0, none⟩ = some (.string s)) := by show _ = _; simp
  go_enter Tryz.func70, Tryz.ntmps70
  go_wp2_with fail
  refine (firstC_any t.A t.cap t.cols 94 #[.pointer (some ⟨w.heap.size + 1, 0, none⟩)] (fun x => eqS x.nm s) _ (RowAt.to HA.out hb2.out) hl entersCol (fun x _ w' hb' => col1_any x _ s w' ((hb'.cell (by simp)).trans hc2.out))).mono ?_
  rintro e w1 ⟨rfl, hb1⟩
  have Hb1 := Lib.hid (bthen hb2.out hb1); clear hb1
  obtain ⟨i, b, hfi⟩ := fstV_eq (t.cols.findIdx? fun x => eqS x.nm s)
  have Hfi := Lib.hid hfi
  rw [hfi]; clear hfi
  go_wp2_with fail
  go_ret2
  exact ⟨by unfold colI; rw [Hfi.out]; rfl, Hb1.out⟩
set_option maxRecDepth 100000 in
theorem skey_any (t : Tb) (w : World) (hA : TabAt w w.heap.size t) (hl : t.cols.length ≤ 1000000) :
    Calls Tryz.prog 86 #[TV t] w fun e w' => e = .returned (fstV (t.cols.findIdx? fun c => c.id == t.key)) ∧ Below w.heap.size w w' := by
  have HA := Lib.hid hA; clear hA
  have hmf : ∀ (fn : Fn) (first cap : Array Value) (w : World), (Instr.makeFunc fn first cap).run Tryz.prog w = .ok (.func fn first cap) w := fun _ _ _ _ => rfl
  have hb2 := Lib.hid (below_one w (.cells (fT t).toArray 51))
  have hc2 : Hid ((w.alloc (.cells (fT t).toArray 51)).cell? ⟨w.heap.size, 2, none⟩ = some (.int .i64 t.key)) := (BlkN.new w _ (fT t) _ rfl).tab.2.2.1
  go_enter Tryz.func86, Tryz.ntmps86
  go_wp2_with fail
  refine (firstC_any t.A t.cap t.cols 108 #[.pointer (some ⟨w.heap.size, 0, none⟩)] (fun x => x.id == t.key) _ (RowAt.to HA.out hb2.out) hl entersKey (fun x _ w' hb' => key1_any x _ t.key w' ((hb'.cell (by simp)).trans hc2.out))).mono ?_
  rintro e w1 ⟨rfl, hb1⟩
  have Hb1 := Lib.hid (bthen hb2.out hb1); clear hb1
  obtain ⟨i, b, hfi⟩ := fstV_eq (t.cols.findIdx? fun x => x.id == t.key)
  have Hfi := Lib.hid hfi
  rw [hfi]; clear hfi
  go_wp2_with fail
  go_ret2
  exact ⟨by rw [Hfi.out]; rfl, Hb1.out⟩
end Go.Proofs.YthmjgaekcghonaaGreatDoor
