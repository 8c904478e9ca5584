/-
  The mathematics of keys (layer 7): several keys, reading back, the next text.
-/
import Derived.Test.YtbbdmphclnnejaaDoorSkMath
namespace Go.Proofs.YtbbdmphclnnejaaDoor

abbrev Vl := Int × Int × List UInt8
def rightL (v : Vl) : Bool := rightV v.1 v.2.1 v.2.2
def in64 (v : Vl) : Prop := -9223372036854775808 ≤ v.2.1 ∧ v.2.1 < 9223372036854775808
def keyL (v : Vl) : List UInt8 := key v.1 v.2.1 v.2.2
/-- several keys, one behind the other -/
def ofK (l : List Vl) : List UInt8 := l.flatMap keyL
theorem ofK_cons (v : Vl) (l : List Vl) : ofK (v :: l) = keyL v ++ ofK l := rfl
theorem ofK_snoc (l : List Vl) (v : Vl) : ofK (l ++ [v]) = ofK l ++ keyL v := by simp [ofK]
/-- the order of several values -/
def ordL : List Vl → List Vl → Int
  | [], [] => 0
  | [], _ :: _ => -1
  | _ :: _, [] => 1
  | a :: r, b :: s => if ordV a.1 a.2.1 a.2.2 b.1 b.2.1 b.2.2 ≠ 0 then ordV a.1 a.2.1 a.2.2 b.1 b.2.1 b.2.2 else ordL r s
theorem of_ord : ∀ (a b : List Vl), (∀ v ∈ a, rightL v = true ∧ in64 v) → (∀ v ∈ b, rightL v = true ∧ in64 v) → ordN (ofK a) (ofK b) = ordL a b
  | [], [], _, _ => rfl
  | [], v :: b, _, hb => by
    obtain ⟨r, hr, _⟩ := key_head (hb v (by simp)).1
    rw [ofK_cons, show keyL v = _ from hr]; rfl
  | v :: a, [], ha, _ => by
    obtain ⟨r, hr, _⟩ := key_head (ha v (by simp)).1
    rw [ofK_cons, show keyL v = _ from hr]; rfl
  | v :: a, w :: b, ha, hb => by
    have ih := of_ord a b (fun x hx => ha x (by simp [hx])) (fun x hx => hb x (by simp [hx]))
    obtain ⟨v1, v2, v3⟩ := ha v (by simp)
    obtain ⟨w1, w2, w3⟩ := hb w (by simp)
    rw [ofK_cons, ofK_cons, ordL]
    unfold keyL
    rw [key_ord v1 w1 v2 v3 w2 w3, ih]
    by_cases h : v.1 = w.1 ∧ v.2.1 = w.2.1 ∧ v.2.2 = w.2.2
    · rw [if_pos h, if_neg]
      rw [h.1, h.2.1, h.2.2, ordV_str, ordN_self]; simp
    · rw [if_neg h, if_pos (fun e => h (ordV_none e))]

/-- the bytes up to their end: the bytes, how many were taken, 0 or the error -/
def scan : List UInt8 → List UInt8 × Nat × Nat
  | [] => ([], 0, 4)
  | [c] => if c = 0 then ([], 0, 4) else ([c], 1, 4)
  | c :: d :: r => if c = 0 then (if d = 255 then (0 :: (scan r).1, (scan r).2.1 + 2, (scan r).2.2) else if d = 0 then ([], 2, 0) else ([], 0, 5)) else (c :: (scan (d :: r)).1, (scan (d :: r)).2.1 + 1, (scan (d :: r)).2.2)
theorem scan_nil : scan [] = ([], 0, 4) := by simp [scan]
theorem scan_cons {c : UInt8} (r : List UInt8) (h : c ≠ 0) : scan (c :: r) = (c :: (scan r).1, (scan r).2.1 + 1, (scan r).2.2) := by
  cases r with
  | nil => simp [scan, h]
  | cons d r => simp [scan, h]
theorem scan_mark (r : List UInt8) : scan (0 :: 255 :: r) = (0 :: (scan r).1, (scan r).2.1 + 2, (scan r).2.2) := by simp [scan]
theorem scan_end (r : List UInt8) : scan (0 :: 0 :: r) = ([], 2, 0) := by simp [scan]
theorem scan_cut : scan [0] = ([], 0, 4) := by simp [scan]
theorem scan_bad {d : UInt8} (r : List UInt8) (h1 : d ≠ 255) (h2 : d ≠ 0) : scan (0 :: d :: r) = ([], 0, 5) := by simp [scan, h1, h2]
theorem scan_esc : ∀ (l s : List UInt8), scan (esc l ++ (0 :: 0 :: s)) = (l, (esc l).length + 2, 0)
  | [], s => by rw [esc]; exact scan_end s
  | c :: r, s => by
    have ih := scan_esc r s
    by_cases hc : c = 0
    · subst hc
      have e : esc (0 :: r) = 0 :: 255 :: esc r := by simp [esc]
      rw [e, List.cons_append, List.cons_append, scan_mark, ih]
      simp
    · have e : esc (c :: r) = c :: esc r := by simp [esc, hc]
      rw [e, List.cons_append, scan_cons _ hc, ih]
      simp
theorem scan_len : ∀ l : List UInt8, (scan l).1.length ≤ l.length
  | [] => by simp [scan]
  | [c] => by
    by_cases h : c = 0 <;> simp [scan, h]
  | c :: d :: r => by
    have i1 := scan_len r
    have i2 := scan_len (d :: r)
    by_cases h : c = 0
    · by_cases h1 : d = 255
      · simp [scan, h, h1]; omega
      · by_cases h2 : d = 0 <;> simp [scan, h, h1, h2]
    · rw [scan_cons _ h]
      simp at i2 ⊢; omega
theorem scan_le : ∀ l : List UInt8, (scan l).2.1 ≤ l.length
  | [] => by simp [scan]
  | [c] => by
    by_cases h : c = 0 <;> simp [scan, h]
  | c :: d :: r => by
    have i1 := scan_le r
    have i2 := scan_le (d :: r)
    by_cases h : c = 0
    · by_cases h1 : d = 255
      · simp [scan, h, h1]; omega
      · by_cases h2 : d = 0 <;> simp [scan, h, h1, h2]
    · rw [scan_cons _ h]
      simp at i2 ⊢; omega
def unbe (l : List UInt8) : Nat := unle l.reverse
theorem unbe_be (w n : Nat) (h : n < 256 ^ w) : unbe (be w n) = n := by
  unfold unbe be
  rw [List.reverse_reverse]; exact unle_le w n h
def noV : Vl := (0, 0, [])
/-- the value of the key at the beginning, its length, 0 or the error -/
def readK2 (c : Nat) (q : List UInt8 × Nat × Nat) : Vl × Nat × Nat :=
  if q.2.2 = 0 then (if c = 3 ∧ (sg q.1).isSome = false then (noV, 0, 5) else if 120 < q.1.length then (noV, 0, 3) else (((c : Int), 0, q.1), q.2.1 + 1, 0)) else (noV, 0, q.2.2)
def readK : List UInt8 → Vl × Nat × Nat
  | [] => (noV, 0, 4)
  | c :: r => if 4 < c.toNat then (noV, 0, 5) else if c.toNat = 0 then (noV, 1, 0)
    else if c.toNat = 1 then (if r.length < 4 then (noV, 0, 4) else ((1, (unbe (r.take 4) : Int) - 2147483648, []), 5, 0))
    else if c.toNat = 2 then (if r.length < 8 then (noV, 0, 4) else ((2, (unbe (r.take 8) : Int) - 9223372036854775808, []), 9, 0))
    else readK2 c.toNat (scan r)
/-- what is made of a value is read as it is, whatever stands behind it -/
theorem read_key {v : Vl} (h : rightL v = true) (hb : in64 v) (s : List UInt8) : readK (keyL v ++ s) = (v, (keyL v).length, 0) := by
  obtain ⟨k, n, l⟩ := v
  obtain ⟨b1, b2⟩ := hb
  simp only at b1 b2
  have h' : rightV k n l = true := h
  rcases rightV_form h' with ⟨rfl, rfl, rfl⟩ | ⟨rfl, p1, p2, rfl⟩ | ⟨rfl, rfl⟩ | ⟨rfl, rfl, hl, hs⟩ | ⟨rfl, rfl, hl⟩
  · rfl
  · show readK (1 :: be 4 (n + 2147483648).toNat ++ s) = ((1, n, []), (1 :: be 4 (n + 2147483648).toNat).length, 0)
    have hlen := be_length 4 (n + 2147483648).toNat
    rw [List.cons_append]
    simp only [readK]
    rw [if_neg (by decide), if_neg (by decide), if_pos (by decide), if_neg (by simp [hlen]), List.take_append_of_le_length (by omega), List.take_of_length_le (by omega), unbe_be _ _ (by omega), List.length_cons, hlen]
    rw [Int.toNat_of_nonneg (by omega), show n + 2147483648 - 2147483648 = n by omega]
  · show readK (2 :: be 8 (n + 9223372036854775808).toNat ++ s) = ((2, n, []), (2 :: be 8 (n + 9223372036854775808).toNat).length, 0)
    have hlen := be_length 8 (n + 9223372036854775808).toNat
    rw [List.cons_append]
    simp only [readK]
    rw [if_neg (by decide), if_neg (by decide), if_neg (by decide), if_pos (by decide), if_neg (by simp [hlen]), List.take_append_of_le_length (by omega), List.take_of_length_le (by omega), unbe_be _ _ (by omega), List.length_cons, hlen]
    rw [Int.toNat_of_nonneg (by omega), show n + 9223372036854775808 - 9223372036854775808 = n by omega]
  · show readK (3 :: (esc l ++ [0, 0]) ++ s) = ((3, 0, l), (3 :: (esc l ++ [0, 0])).length, 0)
    rw [List.cons_append, List.append_assoc]
    simp only [readK]
    rw [if_neg (by decide), if_neg (by decide), if_neg (by decide), if_neg (by decide)]
    show readK2 3 (scan (esc l ++ (0 :: 0 :: s))) = _
    rw [scan_esc]
    unfold readK2
    rw [if_pos rfl, if_neg (by rw [hs]; simp), if_neg (by simp only; omega)]
    simp
  · show readK (4 :: (esc l ++ [0, 0]) ++ s) = ((4, 0, l), (4 :: (esc l ++ [0, 0])).length, 0)
    rw [List.cons_append, List.append_assoc]
    simp only [readK]
    rw [if_neg (by decide), if_neg (by decide), if_neg (by decide), if_neg (by decide)]
    show readK2 4 (scan (esc l ++ (0 :: 0 :: s))) = _
    rw [scan_esc]
    unfold readK2
    rw [if_pos rfl, if_neg (by simp), if_neg (by simp only; omega)]
    simp

/-- the values of the first p bytes -/
inductive GotK (l : List UInt8) : List Vl → Nat → Prop
  | zero : GotK l [] 0
  | more {vs : List Vl} {p : Nat} {v : Vl} {k : Nat} (h : GotK l vs p) (hp : p < l.length) (hr : readK (l.drop p) = (v, k, 0)) : GotK l (vs ++ [v]) (p + k)
def allFK : Nat → List UInt8 → List Vl → List Vl × Nat
  | 0, _, vs => (vs, 0)
  | f + 1, l, vs => if l = [] then (vs, 0) else if (readK l).2.2 = 0 then allFK f (l.drop (readK l).2.1) (vs ++ [(readK l).1]) else ([], (readK l).2.2)
/-- all values that a text is, 0 or the error -/
def allK (l : List UInt8) : List Vl × Nat := allFK l.length l []
theorem readK_pos {l : List UInt8} {v : Vl} {k : Nat} (h : readK l = (v, k, 0)) : 1 ≤ k := by
  unfold readK at h
  split at h
  · cases h
  · unfold readK2 at h
    repeat' split at h
    all_goals first
      | (cases h; omega)
      | (cases h; done)
      | (injection h with h1 h2; injection h2 with h2 h3; omega)
theorem allFK_more (l : List UInt8) : ∀ {vs : List Vl} {p : Nat}, GotK l vs p → ∀ f, l.length ≤ f + 0 → ∃ g, l.length ≤ p + g ∧ allFK f l [] = allFK g (l.drop p) vs := by
  intro vs p h
  induction h with
  | zero => intro f hf; exact ⟨f, by omega, by rw [List.drop_zero]⟩
  | more h hp hr ih =>
    intro f hf
    obtain ⟨g, hg, he⟩ := ih f hf
    cases g with
    | zero => omega
    | succ g =>
      have hk := readK_pos hr
      refine ⟨g, by omega, ?_⟩
      rw [he, allFK, if_neg (by intro e; rw [List.drop_eq_nil_iff] at e; omega), hr, if_pos rfl, List.drop_drop]
theorem all_done {l : List UInt8} {vs : List Vl} {p : Nat} (h : GotK l vs p) (hp : l.length ≤ p) : allK l = (vs, 0) := by
  obtain ⟨g, _, he⟩ := allFK_more l h l.length (by omega)
  unfold allK
  rw [he, List.drop_eq_nil_of_le hp]
  cases g with
  | zero => rfl
  | succ g => rw [allFK, if_pos rfl]
theorem all_stop {l : List UInt8} {vs : List Vl} {p : Nat} {v : Vl} {k e : Nat} (h : GotK l vs p) (hp : p < l.length) (hr : readK (l.drop p) = (v, k, e)) (he : e ≠ 0) : allK l = ([], e) := by
  obtain ⟨g, hg, ha⟩ := allFK_more l h l.length (by omega)
  unfold allK
  rw [ha]
  cases g with
  | zero => omega
  | succ g => rw [allFK, if_neg (by intro e; rw [List.drop_eq_nil_iff] at e; omega), hr, if_neg he]
theorem got_of (l : List Vl) (h : ∀ v ∈ l, rightL v = true ∧ in64 v) (s : List UInt8) : GotK (ofK l ++ s) l (ofK l).length := by
  suffices H : ∀ (b a : List Vl), a ++ b = l → GotK (ofK l ++ s) a (ofK a).length → GotK (ofK l ++ s) l (ofK l).length from H l [] rfl .zero
  intro b
  induction b with
  | nil =>
    intro a hab hg
    rw [List.append_nil] at hab
    rw [hab] at hg
    exact hg
  | cons v b ih =>
    intro a hab h1
    have hv := h v (by rw [← hab]; simp)
    have hd : (ofK l ++ s).drop (ofK a).length = keyL v ++ (ofK b ++ s) := by
      rw [← hab]
      simp [ofK]
    obtain ⟨r, hr, _⟩ := key_head hv.1
    have hlen : (keyL v).length = r.length + 1 := by rw [show keyL v = _ from hr]; rfl
    have e : (keyL v ++ (ofK b ++ s)).length = (keyL v).length + (ofK b ++ s).length := List.length_append
    have h2 := GotK.more h1 (by
      have := congrArg List.length hd
      rw [List.length_drop, e] at this
      omega) (by rw [hd]; exact read_key hv.1 hv.2 _)
    refine ih (a ++ [v]) (by rw [← hab]; simp) ?_
    rw [ofK_snoc, List.length_append]
    exact h2
/-- what is made of values is read as they are -/
theorem all_of (l : List Vl) (h : ∀ v ∈ l, rightL v = true ∧ in64 v) : allK (ofK l) = (l, 0) := by
  have := got_of l h []
  rw [List.append_nil] at this
  exact all_done this (Nat.le_refl _)
end Go.Proofs.YtbbdmphclnnejaaDoor
