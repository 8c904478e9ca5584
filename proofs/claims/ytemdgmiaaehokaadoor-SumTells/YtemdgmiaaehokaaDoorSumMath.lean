/-
  The checksum of bytes, plainly: one bit, so many bits, a byte, a string; it is a mixture's mixture; it is told by any four bytes side by side. It speaks of no program.
-/
import Derived.Test.YtemdgmiaaehokaaDoorFixMath
namespace Go.Proofs.YtemdgmiaaehokaaDoor
open Go.RowKit

/-- one bit is shifted out -/
def s1 (c : Nat) : Nat := if c % 2 = 1 then c / 2 ^^^ 2197175160 else c / 2
/-- k bits are shifted out -/
def sh : Nat → Nat → Nat
  | 0, c => c
  | k + 1, c => sh k (s1 c)
/-- a byte -/
def stp (c : Nat) (b : UInt8) : Nat := sh 8 (c ^^^ b.toNat)
/-- bytes -/
def run (c : Nat) (l : List UInt8) : Nat := l.foldl stp c
/-- the checksum -/
def crc (l : List UInt8) : Nat := 4294967295 - run 4294967295 l

theorem s1_xor (a b : Nat) : s1 (a ^^^ b) = s1 a ^^^ s1 b := by
  unfold s1
  have hm : (a ^^^ b) % 2 = 1 ↔ ¬(a % 2 = 1 ↔ b % 2 = 1) := Nat.xor_mod_two_eq_one
  rw [Nat.xor_div_two]
  by_cases ha : a % 2 = 1 <;> by_cases hb : b % 2 = 1
  · rw [if_neg (by rw [hm]; simp [ha, hb]), if_pos ha, if_pos hb, Nat.xor_assoc, Nat.xor_comm (b / 2), ← Nat.xor_assoc 2197175160, Nat.xor_self, Nat.zero_xor]
  · rw [if_pos (by rw [hm]; simp [ha, hb]), if_pos ha, if_neg hb, Nat.xor_assoc, Nat.xor_assoc, Nat.xor_comm (b / 2)]
  · rw [if_pos (by rw [hm]; simp [ha, hb]), if_neg ha, if_pos hb, Nat.xor_assoc]
  · rw [if_neg (by rw [hm]; simp [ha, hb]), if_neg ha, if_neg hb]
theorem sh_xor : ∀ (k a b : Nat), sh k (a ^^^ b) = sh k a ^^^ sh k b
  | 0, _, _ => rfl
  | k + 1, a, b => by rw [sh, s1_xor, sh_xor k, ← sh, ← sh]
theorem sh_add : ∀ (j k c : Nat), sh (j + k) c = sh k (sh j c)
  | 0, k, c => by simp [sh]
  | j + 1, k, c => by rw [show j + 1 + k = (j + k) + 1 by omega, sh, sh_add j k, ← sh]
theorem sh_up : ∀ (k q : Nat), sh k (2 ^ k * q) = q
  | 0, q => by simp [sh]
  | k + 1, q => by
    have e : s1 (2 ^ (k + 1) * q) = 2 ^ k * q := by
      unfold s1
      rw [Nat.pow_succ, Nat.mul_comm (2 ^ k) 2, Nat.mul_assoc, if_neg (by omega)]; omega
    rw [sh, e, sh_up k q]
/-- what stands high and what stands low -/
theorem xor_parts (k q r : Nat) (h : r < 2 ^ k) : r ^^^ (2 ^ k * q) = r + 2 ^ k * q := by
  apply Nat.eq_of_testBit_eq
  intro i
  rw [Nat.testBit_xor, Nat.add_comm r, Nat.testBit_two_pow_mul_add q h, Nat.testBit_two_pow_mul]
  by_cases hi : i < k
  · simp [hi, show ¬ k ≤ i by omega]
  · simp [hi, show k ≤ i by omega, Nat.testBit_lt_two_pow (Nat.lt_of_lt_of_le h (Nat.pow_le_pow_right (by omega) (show k ≤ i by omega)))]
/-- four bits at once -/
theorem sh_four (c : Nat) : sh 4 c = c / 16 ^^^ sh 4 (c % 16) := by
  have e : c = c % 16 ^^^ (2 ^ 4 * (c / 16)) := by rw [xor_parts 4 _ _ (by omega)]; omega
  conv => lhs; rw [e, sh_xor, sh_up]
  exact Nat.xor_comm _ _
theorem s1_lt (c : Nat) (h : c < 4294967296) : s1 c < 4294967296 := by
  unfold s1; split
  · exact Nat.xor_lt_two_pow (n := 32) (by omega) (by omega)
  · omega
theorem sh_lt : ∀ (k c : Nat), c < 4294967296 → sh k c < 4294967296
  | 0, _, h => h
  | k + 1, c, h => sh_lt k _ (s1_lt c h)
theorem xor_lt32 {a b : Nat} (h1 : a < 4294967296) (h2 : b < 4294967296) : a ^^^ b < 4294967296 := Nat.xor_lt_two_pow (n := 32) h1 h2
theorem stp_lt (c : Nat) (b : UInt8) (h : c < 4294967296) : stp c b < 4294967296 := by
  have := b.toNat_lt
  exact sh_lt 8 _ (xor_lt32 h (by omega))
theorem run_lt : ∀ (l : List UInt8) (c : Nat), c < 4294967296 → run c l < 4294967296
  | [], _, h => h
  | b :: l, c, h => run_lt l _ (stp_lt c b h)
theorem run_append (c : Nat) (a b : List UInt8) : run c (a ++ b) = run (run c a) b := List.foldl_append
theorem run_snoc (c : Nat) (a : List UInt8) (b : UInt8) : run c (a ++ [b]) = stp (run c a) b := by rw [run_append]; rfl
theorem xor_ones32 (x : Nat) (hx : x < 4294967296) : x ^^^ 4294967295 = 4294967295 - x := by
  have h := BitVec.toNat_not (x := BitVec.ofNat 32 x)
  rw [← BitVec.xor_allOnes, BitVec.toNat_xor, BitVec.toNat_allOnes, BitVec.toNat_ofNat] at h
  rw [show x % 2 ^ 32 = x from Nat.mod_eq_of_lt hx] at h
  simpa using h
theorem crc_lt (l : List UInt8) : crc l < 4294967296 := by unfold crc; omega
theorem crc_xor (l : List UInt8) : crc l = run 4294967295 l ^^^ 4294967295 := (xor_ones32 _ (run_lt l _ (by omega))).symm
theorem crc_nil : crc [] = 0 := rfl
/-- to go on with a checksum -/
def mor (c : Nat) (l : List UInt8) : Nat := 4294967295 - run (4294967295 - c) l
theorem mor_lt (c : Nat) (l : List UInt8) : mor c l < 4294967296 := by unfold mor; omega
theorem mor_zero (l : List UInt8) : mor 0 l = crc l := rfl
theorem crc_more (a b : List UInt8) : crc (a ++ b) = mor (crc a) b := by
  have := run_lt a 4294967295 (by omega)
  unfold mor crc
  rw [run_append, show 4294967295 - (4294967295 - run 4294967295 a) = run 4294967295 a by omega]

/-- bytes at once, as a number -/
theorem run_unle : ∀ (l : List UInt8) (c : Nat), run c l = sh (8 * l.length) (c ^^^ unle l)
  | [], c => by simp [run, sh, unle]
  | b :: l, c => by
    have hb := b.toNat_lt
    show run (stp c b) l = _
    rw [run_unle l, List.length_cons, show 8 * (l.length + 1) = 8 + 8 * l.length by omega, sh_add, unle, show 256 = 2 ^ 8 from rfl, ← xor_parts 8 _ _ (by omega), ← Nat.xor_assoc, sh_xor 8 (c ^^^ b.toNat), sh_up]
    rfl
theorem xor_left_inj {a b c : Nat} (h : a ^^^ c = b ^^^ c) : a = b := by
  have := congrArg (· ^^^ c) h
  simpa [Nat.xor_assoc, Nat.xor_self] using this
theorem xor_zero {a b : Nat} (h : a ^^^ b = 0) : a = b := xor_left_inj (c := b) (by rw [h, Nat.xor_self])
theorem s1_zero (c : Nat) (h : c < 4294967296) (e : s1 c = 0) : c = 0 := by
  unfold s1 at e
  split at e
  · have := xor_zero e; omega
  · omega
theorem sh_zero : ∀ (k c : Nat), c < 4294967296 → sh k c = 0 → c = 0
  | 0, _, _, e => e
  | k + 1, c, h, e => s1_zero c h (sh_zero k _ (s1_lt c h) e)
theorem sh_inj (k a b : Nat) (ha : a < 4294967296) (hb : b < 4294967296) (e : sh k a = sh k b) : a = b := by
  have h := sh_zero k (a ^^^ b) (xor_lt32 ha hb) (by rw [sh_xor, e, Nat.xor_self])
  exact xor_zero h
theorem run_inj : ∀ (l : List UInt8) (a b : Nat), a < 4294967296 → b < 4294967296 → run a l = run b l → a = b
  | [], _, _, _, _, e => e
  | c :: l, a, b, ha, hb, e => by
    have hc := c.toNat_lt
    have := run_inj l _ _ (stp_lt a c ha) (stp_lt b c hb) e
    exact xor_left_inj (sh_inj 8 _ _ (xor_lt32 ha (by omega)) (xor_lt32 hb (by omega)) this)
theorem unle_lt4 (m : List UInt8) (h : m.length = 4) : unle m < 4294967296 := by
  have := unle_lt m
  rw [h] at this; simpa using this
theorem run_four (m m' : List UInt8) (c : Nat) (h : m.length = 4) (h' : m'.length = 4) (hc : c < 4294967296) (e : run c m = run c m') : m = m' := by
  rw [run_unle, run_unle, h, h', Nat.xor_comm c, Nat.xor_comm c] at e
  have := xor_left_inj (sh_inj _ _ _ (xor_lt32 (unle_lt4 m h) hc) (xor_lt32 (unle_lt4 m' h') hc) e)
  rw [← le_unle m, ← le_unle m', h, h', this]
/-- two strings that differ within four bytes side by side alone -/
theorem run_tells (p m m' r : List UInt8) (h : m.length = 4) (h' : m'.length = 4) (e : run 4294967295 (p ++ (m ++ r)) = run 4294967295 (p ++ (m' ++ r))) : m = m' := by
  have hp := run_lt p 4294967295 (by omega)
  rw [run_append, run_append, run_append, run_append] at e
  exact run_four m m' _ h h' hp (run_inj r _ _ (run_lt m _ hp) (run_lt m' _ hp) e)

/-- the sealed string -/
def sealed (l : List UInt8) : List UInt8 := l ++ le 4 (crc l)
theorem seal_length (l : List UInt8) : (sealed l).length = l.length + 4 := by simp [sealed, le_length]
/-- what a sealed string was, and the error -/
def opn (l : List UInt8) : List UInt8 × Nat :=
  if l.length < 4 then ([], 4) else if l.drop (l.length - 4) = le 4 (crc (l.take (l.length - 4))) then (l.take (l.length - 4), 0) else ([], 7)
theorem opn_sealed (l : List UInt8) : opn (sealed l) = (l, 0) := by
  unfold opn
  rw [seal_length, if_neg (by omega), Nat.add_sub_cancel, sealed, List.drop_left, List.take_left, if_pos rfl]
/-- all sealed strings leave one state -/
theorem seal_run (l : List UInt8) : run 4294967295 (sealed l) = sh 32 4294967295 := by
  have h := run_lt l 4294967295 (by omega)
  rw [sealed, run_append, run_unle, le_length, unle_le 4 _ (by have := crc_lt l; simpa using this), crc_xor, ← Nat.xor_assoc, Nat.xor_self, Nat.zero_xor]
theorem opn_ok {t : List UInt8} (h : (opn t).2 = 0) : t = sealed (opn t).1 := by
  unfold opn at h ⊢
  split at h
  · simp at h
  · rename_i h4
    split at h
    · rename_i he
      rw [if_neg h4, if_pos he]
      show t = sealed _
      rw [sealed, ← he, List.take_append_drop]
    · simp at h
/-- two of which one is sealed, that differ within four bytes side by side alone -/
theorem seal_tells (l p m m' r : List UInt8) (h : m.length = 4) (h' : m'.length = 4) (e : sealed l = p ++ (m ++ r)) : (opn (p ++ (m' ++ r))).2 = 0 ↔ m' = m := by
  constructor
  · intro ho
    refine (run_tells p m m' r h h' ?_).symm
    rw [← e, seal_run, opn_ok ho, seal_run]
  · rintro rfl
    rw [← e, opn_sealed]
theorem crc_tells (p m m' r : List UInt8) (h : m.length = 4) (h' : m'.length = 4) : crc (p ++ (m' ++ r)) = crc (p ++ (m ++ r)) ↔ m' = m := by
  constructor
  · intro e
    refine run_tells p m' m r h' h ?_
    have := run_lt (p ++ (m' ++ r)) 4294967295 (by omega)
    have := run_lt (p ++ (m ++ r)) 4294967295 (by omega)
    unfold crc at e; omega
  · rintro rfl; rfl

/-- three strings, byte by byte -/
def mix : List UInt8 → List UInt8 → List UInt8 → List UInt8
  | a :: l, b :: m, c :: n => (a ^^^ b ^^^ c) :: mix l m n
  | _, _, _ => []
theorem xor3 (a b c x y z : Nat) : (a ^^^ b ^^^ c) ^^^ (x ^^^ y ^^^ z) = (a ^^^ x) ^^^ (b ^^^ y) ^^^ (c ^^^ z) := by
  ac_rfl
theorem run_mix : ∀ (l m n : List UInt8) (a b c : Nat), l.length = m.length → m.length = n.length → run (a ^^^ b ^^^ c) (mix l m n) = run a l ^^^ run b m ^^^ run c n
  | [], [], [], a, b, c, _, _ => rfl
  | x :: l, y :: m, z :: n, a, b, c, h1, h2 => by
    show run (stp (a ^^^ b ^^^ c) (x ^^^ y ^^^ z)) (mix l m n) = run (stp a x) l ^^^ run (stp b y) m ^^^ run (stp c z) n
    rw [← run_mix l m n _ _ _ (by simpa using h1) (by simpa using h2)]
    congr 1
    unfold stp
    rw [UInt8.toNat_xor, UInt8.toNat_xor, xor3, sh_xor, sh_xor]
theorem crc_mix (l m n : List UInt8) (h1 : l.length = m.length) (h2 : m.length = n.length) : crc (mix l m n) = crc l ^^^ crc m ^^^ crc n := by
  rw [crc_xor, crc_xor, crc_xor, crc_xor]
  have := run_mix l m n 4294967295 4294967295 4294967295 h1 h2
  rw [Nat.xor_self, Nat.zero_xor] at this
  have e : run 4294967295 l ^^^ run 4294967295 m ^^^ run 4294967295 n ^^^ (4294967295 ^^^ 4294967295 ^^^ 4294967295) = (run 4294967295 l ^^^ 4294967295) ^^^ (run 4294967295 m ^^^ 4294967295) ^^^ (run 4294967295 n ^^^ 4294967295) := xor3 _ _ _ _ _ _
  rw [this, ← e]
  rfl
end Go.Proofs.YtemdgmiaaehokaaDoor
