/-
  Texts that the proof needs, one behind the other: ValMath, ValC, ValRightC, ValOrdC, ValOpen, ValHexMath, ValNumC.
-/
import Derived.Handy
import Derived.StillTailTactics
import Derived.Lib.SmallJoins
import Derived.ProofKit
import Derived.OpenShut
import Derived.ShutString
import Derived.ChangeOld
import Derived.Test.YtebldfnocpcddaaGreatDoorPart4
import Derived.Test.YtebldfnocpcddaaGreatDoorPart1
import Derived.Test.YtebldfnocpcddaaGreatDoorPart3

/-
  Numbers as decimal digits, and what a string begins with as a number, plainly. It speaks of no program.
-/
namespace Go.Proofs.YtebldfnocpcddaaGreatDoor

theorem snoc_cases (l : List UInt8) : l = [] ∨ ∃ r c, l = r ++ [c] := by
  rcases List.eq_nil_or_concat l with h | ⟨r, c, h⟩
  · exact .inl h
  · exact .inr ⟨r, c, by rw [h, List.concat_eq_append]⟩
/-- a decimal digit -/
def isD (c : UInt8) : Bool := decide (48 ≤ c.toNat) && decide (c.toNat ≤ 57)
theorem isD_iff (c : UInt8) : isD c = true ↔ 48 ≤ c.toNat ∧ c.toNat ≤ 57 := by simp [isD]
/-- the byte of a digit -/
def dg (n : Nat) : UInt8 := UInt8.ofNat (48 + n)
theorem dg_nat (n : Nat) (h : n < 10) : (dg n).toNat = 48 + n := by simp [dg]; omega
theorem isD_dg (n : Nat) (h : n < 10) : isD (dg n) = true := by rw [isD_iff, dg_nat n h]; omega
theorem dg_of {c : UInt8} (h : isD c = true) : dg (c.toNat - 48) = c := by
  rw [isD_iff] at h
  refine UInt8.toNat_inj.1 ?_
  rw [dg_nat _ (by omega)]; omega
/-- a number in decimal digits -/
def dn (n : Nat) : List UInt8 := if n < 10 then [dg n] else dn (n / 10) ++ [dg (n % 10)]
termination_by n
decreasing_by omega
theorem dn_lt {n : Nat} (h : n < 10) : dn n = [dg n] := by rw [dn, if_pos h]
theorem dn_ge {n : Nat} (h : 10 ≤ n) : dn n = dn (n / 10) ++ [dg (n % 10)] := by rw [dn, if_neg (by omega)]
/-- the number of digits -/
def dv (l : List UInt8) : Nat := l.foldl (fun a c => 10 * a + (c.toNat - 48)) 0
theorem dv_snoc (l : List UInt8) (c : UInt8) : dv (l ++ [c]) = 10 * dv l + (c.toNat - 48) := by simp [dv]
/-- all bytes are digits -/
def AllD (l : List UInt8) : Prop := ∀ c ∈ l, isD c = true
theorem AllD.snoc {l : List UInt8} {c : UInt8} (h : AllD (l ++ [c])) : AllD l ∧ isD c = true := ⟨fun x hx => h x (by simp [hx]), h c (by simp)⟩
theorem dn_all (n : Nat) : AllD (dn n) := by
  induction n using Nat.strongRecOn with
  | ind n ih =>
    by_cases h : n < 10
    · rw [dn_lt h]; intro c hc; simp at hc; subst hc; exact isD_dg n h
    · rw [dn_ge (by omega)]
      intro c hc
      rcases List.mem_append.1 hc with hc | hc
      · exact ih (n / 10) (by omega) c hc
      · simp at hc; subst hc; exact isD_dg _ (by omega)
theorem dn_ne (n : Nat) : dn n ≠ [] := by
  by_cases h : n < 10
  · rw [dn_lt h]; simp
  · rw [dn_ge (by omega)]; simp
theorem dv_dn (n : Nat) : dv (dn n) = n := by
  induction n using Nat.strongRecOn with
  | ind n ih =>
    by_cases h : n < 10
    · rw [dn_lt h]; simp [dv, dg_nat n h]
    · rw [dn_ge (by omega), dv_snoc, ih (n / 10) (by omega), dg_nat _ (by omega)]; omega
theorem dn_inj {a b : Nat} (h : dn a = dn b) : a = b := by rw [← dv_dn a, h, dv_dn]
theorem dv_lt : ∀ (k : Nat) (l : List UInt8), AllD l → l.length = k → dv l < 10 ^ k
  | 0, l, _, hk => by
    rw [List.eq_nil_of_length_eq_zero hk]; simp [dv]
  | k + 1, l, h, hk => by
    rcases snoc_cases l with rfl | ⟨r, c, rfl⟩
    · simp at hk
    · obtain ⟨h1, h2⟩ := h.snoc
      rw [isD_iff] at h2
      have h3 := dv_lt k r h1 (by simpa using hk)
      rw [dv_snoc, Nat.pow_succ]; omega
/-- canonical digits: no zero ahead of others -/
def Can (l : List UInt8) : Prop := l ≠ [] ∧ AllD l ∧ (l[0]? = some 48 → l.length = 1)
theorem Can.snoc {r : List UInt8} {c : UInt8} (h : Can (r ++ [c])) (hr : r ≠ []) : Can r ∧ r[0]? ≠ some 48 := by
  obtain ⟨_, h2, h3⟩ := h
  have h4 : r[0]? ≠ some 48 := fun e => by
    have hl : 0 < r.length := List.length_pos_iff.2 hr
    have := h3 (by rw [List.getElem?_append_left hl]; exact e)
    simp at this; exact hr this
  exact ⟨⟨hr, h2.snoc.1, fun e => absurd e h4⟩, h4⟩
theorem dv_ge : ∀ (k : Nat) (l : List UInt8), Can l → l[0]? ≠ some 48 → l.length = k + 1 → 10 ^ k ≤ dv l
  | 0, l, h, h0, hk => by
    obtain ⟨c, rfl⟩ : ∃ c, l = [c] := by
      cases l with
      | nil => simp at hk
      | cons c r => simp at hk; subst hk; exact ⟨c, rfl⟩
    have h1 := (isD_iff c).1 (h.2.1 c (by simp))
    have h2 : c.toNat ≠ 48 := fun e => h0 (by simp; exact UInt8.toNat_inj.1 e)
    simp [dv]; omega
  | k + 1, l, h, h0, hk => by
    rcases snoc_cases l with rfl | ⟨r, c, rfl⟩
    · simp at hk
    · have hr : r ≠ [] := fun e => by subst e; simp at hk
      obtain ⟨h1, h2⟩ := Can.snoc h hr
      have h3 := dv_ge k r h1 h2 (by simpa using hk)
      rw [dv_snoc, Nat.pow_succ]; omega
theorem dn_dv : ∀ (k : Nat) (l : List UInt8), Can l → l.length = k → dn (dv l) = l
  | 0, l, h, hk => absurd (List.eq_nil_of_length_eq_zero hk) h.1
  | k + 1, l, h, hk => by
    rcases snoc_cases l with rfl | ⟨r, c, rfl⟩
    · simp at hk
    · have hc := h.2.1.snoc.2
      have hc2 := (isD_iff c).1 hc
      by_cases hr : r = []
      · subst hr
        have e : dv ([] ++ [c]) = c.toNat - 48 := by simp [dv]
        rw [e, dn_lt (by omega), dg_of hc]; rfl
      · obtain ⟨h1, h2⟩ := Can.snoc h hr
        have h3 := dn_dv k r h1 (by simpa using hk)
        have h4 : 1 ≤ dv r := by
          obtain ⟨j, hj⟩ : ∃ j, r.length = j + 1 := ⟨r.length - 1, by have := List.length_pos_iff.2 hr; omega⟩
          have := dv_ge j r h1 h2 hj
          have := Nat.one_le_pow j 10 (by omega)
          omega
        rw [dv_snoc, dn_ge (by omega), show (10 * dv r + (c.toNat - 48)) / 10 = dv r by omega, show (10 * dv r + (c.toNat - 48)) % 10 = c.toNat - 48 by omega, h3, dg_of hc]
theorem dn_can (n : Nat) : Can (dn n) := by
  refine ⟨dn_ne n, dn_all n, ?_⟩
  induction n using Nat.strongRecOn with
  | ind n ih =>
    by_cases h : n < 10
    · rw [dn_lt h]; simp
    · rw [dn_ge (by omega), List.getElem?_append_left (List.length_pos_iff.2 (dn_ne _))]
      intro e
      have h1 := ih (n / 10) (by omega) e
      obtain ⟨c, hc⟩ : ∃ c, dn (n / 10) = [c] := by
        cases hd : dn (n / 10) with
        | nil => exact absurd hd (dn_ne _)
        | cons c r => rw [hd] at h1; simp at h1; subst h1; exact ⟨c, rfl⟩
      rw [hc] at e
      simp at e; subst e
      have h2 := dv_dn (n / 10)
      rw [hc] at h2
      simp [dv] at h2; omega
theorem dn_len (n k : Nat) (h : n < 10 ^ k) (hk : 1 ≤ k) : (dn n).length ≤ k := by
  induction k generalizing n with
  | zero => omega
  | succ k ih =>
    by_cases h1 : n < 10
    · rw [dn_lt h1]; simp
    · rw [dn_ge (by omega), List.length_append]
      have hk0 : 1 ≤ k := by
        cases k with
        | zero => simp at h; omega
        | succ j => omega
      have := ih (n / 10) (by rw [Nat.pow_succ] at h; omega) hk0
      simp; omega
/-- an integer in decimal digits -/
def dz (z : Int) : List UInt8 := if z < 0 then 45 :: dn z.natAbs else dn z.natAbs
theorem dz_neg {z : Int} (h : z < 0) : dz z = 45 :: dn z.natAbs := by rw [dz, if_pos h]
theorem dz_pos {z : Int} (h : 0 ≤ z) : dz z = dn z.natAbs := by rw [dz, if_neg (by omega)]
theorem dn_head (n : Nat) : ∃ c r, dn n = c :: r ∧ isD c = true := by
  have h := dn_all n
  cases hd : dn n with
  | nil => exact absurd hd (dn_ne n)
  | cons c r => exact ⟨c, r, rfl, h c (by rw [hd]; simp)⟩
theorem dz_inj {a b : Int} (h : dz a = dz b) : a = b := by
  obtain ⟨c, r, hc, hc2⟩ := dn_head a.natAbs
  obtain ⟨d, s, hd, hd2⟩ := dn_head b.natAbs
  by_cases ha : a < 0
  · by_cases hb : b < 0
    · rw [dz_neg ha, dz_neg hb] at h
      have := dn_inj (List.cons.inj h).2
      omega
    · rw [dz_neg ha, dz_pos (by omega), hd] at h
      have := (List.cons.inj h).1
      subst this; simp [isD] at hd2
  · by_cases hb : b < 0
    · rw [dz_pos (by omega), dz_neg hb, hc] at h
      have := (List.cons.inj h).1
      subst this; simp [isD] at hc2
    · rw [dz_pos (by omega), dz_pos (by omega)] at h
      have := dn_inj h
      omega
theorem dz_len (z : Int) (h1 : -9223372036854775808 ≤ z) (h2 : z < 9223372036854775808) : (dz z).length ≤ 20 := by
  have h3 := dn_len z.natAbs 19 (by omega) (by omega)
  unfold dz; split <;> simp <;> omega
theorem dz_ne (z : Int) : 0 < (dz z).length := by
  have := List.length_pos_iff.2 (dn_ne z.natAbs)
  unfold dz; split <;> simp <;> omega

/-- the digits ahead of what is none -/
def ldD (l : List UInt8) : List UInt8 := l.takeWhile isD
theorem ldD_all (l : List UInt8) : AllD (ldD l) := fun c hc => by
  unfold ldD at hc
  induction l with
  | nil => simp at hc
  | cons a r ih =>
    by_cases ha : isD a = true
    · rw [List.takeWhile_cons_of_pos ha] at hc
      rcases List.mem_cons.1 hc with rfl | hc
      · exact ha
      · exact ih hc
    · rw [List.takeWhile_cons_of_neg ha] at hc; cases hc
theorem ldD_take (l : List UInt8) : l.take (ldD l).length = ldD l := by
  unfold ldD
  induction l with
  | nil => simp
  | cons a r ih =>
    by_cases ha : isD a = true
    · rw [List.takeWhile_cons_of_pos ha]; simp [ih]
    · rw [List.takeWhile_cons_of_neg ha]; simp
theorem ldD_len (l : List UInt8) : (ldD l).length ≤ l.length := by
  have h := congrArg List.length (ldD_take l)
  rw [List.length_take] at h; omega
theorem ldD_stop : ∀ {l : List UInt8} {k : Nat}, (∀ x ∈ l.take k, isD x = true) → (∀ c, l[k]? = some c → isD c = false) → k ≤ l.length → ldD l = l.take k
  | [], k, _, _, hk => by simp [ldD]
  | a :: r, 0, _, h, _ => by
    have := h a rfl
    simp [ldD, this]
  | a :: r, k + 1, h1, h2, hk => by
    have ha : isD a = true := h1 a (by simp)
    have := ldD_stop (l := r) (k := k) (fun x hx => h1 x (by simp [hx])) (fun c hc => h2 c (by simpa using hc)) (by simpa using hk)
    unfold ldD at this ⊢
    rw [List.takeWhile_cons_of_pos ha, this]; rfl
theorem ldD_app {ds r : List UInt8} (h : AllD ds) (hr : ∀ c, r[0]? = some c → isD c = false) : ldD (ds ++ r) = ds := by
  have := ldD_stop (l := ds ++ r) (k := ds.length) (fun x hx => h x (by simpa using hx)) (fun c hc => hr c (by rw [List.getElem?_append_right (Nat.le_refl _), Nat.sub_self] at hc; exact hc)) (by simp)
  rw [this]; simp

/-- how many signs stand ahead of the digits -/
def sgAt (l : List UInt8) : Nat := if l[0]? = some 45 then 1 else 0
/-- the number of these digits, with its sign -/
def numZ (st : Nat) (ds : List UInt8) : Int := if st = 1 then -(dv ds : Int) else (dv ds : Int)
def num2 (st : Nat) (ds : List UInt8) : Int × Nat × Nat :=
  if ds = [] then (0, 0, 5) else if ds[0]? = some 48 ∧ (st = 1 ∨ 1 < ds.length) then (0, 0, 5)
  else if -9223372036854775808 ≤ numZ st ds ∧ numZ st ds < 9223372036854775808 then (numZ st ds, st + ds.length, 0) else (0, 0, 10)
/-- the number at the beginning, its length, the error -/
def numW (l : List UInt8) : Int × Nat × Nat := num2 (sgAt l) (ldD (l.drop (sgAt l)))
theorem sgAt_cases (l : List UInt8) : (sgAt l = 1 ∧ l[0]? = some 45) ∨ (sgAt l = 0 ∧ l[0]? ≠ some 45) := by
  unfold sgAt; split
  · exact .inl ⟨rfl, by assumption⟩
  · exact .inr ⟨rfl, by assumption⟩
theorem can_of {ds : List UInt8} {st : Nat} (h0 : ds ≠ []) (hd : AllD ds) (h : ¬ (ds[0]? = some 48 ∧ (st = 1 ∨ 1 < ds.length))) : Can ds :=
  ⟨h0, hd, fun e => by
    have := List.length_pos_iff.2 h0
    by_cases h1 : 1 < ds.length
    · exact absurd ⟨e, .inr h1⟩ h
    · omega⟩
theorem dz_num {ds : List UInt8} {st : Nat} (hc : Can ds) (hst : st = 0 ∨ st = 1) (h : ¬ (ds[0]? = some 48 ∧ (st = 1 ∨ 1 < ds.length))) : dz (numZ st ds) = (if st = 1 then [45] else []) ++ ds := by
  have h1 := dn_dv _ ds hc rfl
  unfold numZ
  rcases hst with rfl | rfl
  · rw [if_neg (by omega), if_neg (by omega), dz_pos (by omega), Int.natAbs_natCast, h1]; rfl
  · have h2 : ds[0]? ≠ some 48 := fun e => h ⟨e, .inl rfl⟩
    obtain ⟨j, hj⟩ : ∃ j, ds.length = j + 1 := ⟨ds.length - 1, by have := List.length_pos_iff.2 hc.1; omega⟩
    have h3 := dv_ge j ds hc h2 hj
    have := Nat.one_le_pow j 10 (by omega)
    rw [if_pos rfl, if_pos rfl, dz_neg (by omega), Int.natAbs_neg, Int.natAbs_natCast, h1]; rfl
theorem sgAt_take (l : List UInt8) : l.take (sgAt l) = if sgAt l = 1 then [45] else [] := by
  rcases sgAt_cases l with ⟨h1, h2⟩ | ⟨h1, h2⟩
  · rw [h1, if_pos rfl]
    cases l with
    | nil => simp at h2
    | cons a r => simp at h2; subst h2; rfl
  · rw [h1, if_neg (by omega)]; rfl
theorem num_take (l : List UInt8) : l.take (sgAt l + (ldD (l.drop (sgAt l))).length) = (if sgAt l = 1 then [45] else []) ++ ldD (l.drop (sgAt l)) := by
  rw [List.take_add, sgAt_take, ldD_take]
theorem num_back {l : List UInt8} {z : Int} {k : Nat} (h : numW l = (z, k, 0)) : l.take k = dz z ∧ -9223372036854775808 ≤ z ∧ z < 9223372036854775808 ∧ k ≤ l.length := by
  have hst : sgAt l = 0 ∨ sgAt l = 1 := by rcases sgAt_cases l with ⟨h1, _⟩ | ⟨h1, _⟩ <;> omega
  have hlen := ldD_len (l.drop (sgAt l))
  have hsl : sgAt l ≤ l.length := by
    rcases sgAt_cases l with ⟨h1, h2⟩ | ⟨h1, _⟩
    · rw [h1]
      cases l with
      | nil => simp at h2
      | cons a r => simp
    · omega
  rw [List.length_drop] at hlen
  have ht := num_take l
  have hd := ldD_all (l.drop (sgAt l))
  unfold numW at h
  generalize ldD (l.drop (sgAt l)) = ds at *
  unfold num2 at h
  split at h
  · simp at h
  · split at h
    · simp at h
    · split at h
      · rename_i h0 h1 h2
        simp only [Prod.mk.injEq] at h
        obtain ⟨rfl, rfl, _⟩ := h
        exact ⟨by rw [ht, dz_num (can_of h0 hd h1) hst h1], h2.1, h2.2, by omega⟩
      · simp at h
theorem num_dz {z : Int} {r : List UInt8} (h1 : -9223372036854775808 ≤ z) (h2 : z < 9223372036854775808) (hr : ∀ c, r[0]? = some c → isD c = false) : numW (dz z ++ r) = (z, (dz z).length, 0) := by
  have hc := dn_can z.natAbs
  obtain ⟨a, t, ha, ha2⟩ := dn_head z.natAbs
  by_cases hz : z < 0
  · have e1 : sgAt (dz z ++ r) = 1 := by rw [dz_neg hz]; simp [sgAt]
    have e2 : ldD ((dz z ++ r).drop 1) = dn z.natAbs := by rw [dz_neg hz]; exact ldD_app (dn_all _) hr
    unfold numW
    rw [e1, e2]
    unfold num2
    have h3 : (dn z.natAbs)[0]? ≠ some 48 := fun e => by
      have h4 := hc.2.2 e
      have h5 := dv_dn z.natAbs
      rw [ha] at e h4 h5
      simp at e h4; subst e h4
      simp [dv] at h5; omega
    have h4 : numZ 1 (dn z.natAbs) = z := by unfold numZ; rw [if_pos rfl, dv_dn]; omega
    rw [if_neg hc.1, if_neg (fun h => h3 h.1), h4, if_pos ⟨h1, h2⟩, dz_neg hz]
    simp; omega
  · have e1 : sgAt (dz z ++ r) = 0 := by
      rw [dz_pos (by omega), ha]
      unfold sgAt
      rw [if_neg]
      simp
      intro e; subst e; simp [isD] at ha2
    have e2 : ldD ((dz z ++ r).drop 0) = dn z.natAbs := by rw [dz_pos (by omega)]; exact ldD_app (dn_all _) hr
    unfold numW
    rw [e1, e2]
    unfold num2
    have h3 : ¬ ((dn z.natAbs)[0]? = some 48 ∧ (0 = 1 ∨ 1 < (dn z.natAbs).length)) := fun ⟨e, h4⟩ => by
      have := hc.2.2 e
      omega
    have h4 : numZ 0 (dn z.natAbs) = z := by unfold numZ; rw [if_neg (by omega), dv_dn]; omega
    rw [if_neg hc.1, if_neg h3, h4, if_pos ⟨h1, h2⟩, dz_pos (by omega)]
    simp
theorem num_err {l : List UInt8} {z : Int} {k e : Nat} (h : numW l = (z, k, e)) (he : e ≠ 0) : z = 0 ∧ k = 0 := by
  unfold numW num2 at h
  repeat' split at h
  all_goals
    simp only [Prod.mk.injEq] at h
    obtain ⟨rfl, rfl, rfl⟩ := h
    first | exact ⟨rfl, rfl⟩ | exact absurd rfl he
end Go.Proofs.YtebldfnocpcddaaGreatDoor

/-
  Contracts of package value: Int, Long, Text, Bytes, Right, and of the document's own Right.
-/
namespace Go.Proofs.YtebldfnocpcddaaGreatDoor
open Go.RowKit

/-- a block of three cells that may be written -/
def Blk3 (w : World) (b : Nat) (x y z : Value) : Prop := w.cell? ⟨b, 0, none⟩ = some x ∧ w.cell? ⟨b, 1, none⟩ = some y ∧ w.cell? ⟨b, 2, none⟩ = some z ∧
  w.frozen? ⟨b, 0, none⟩ = false ∧ w.frozen? ⟨b, 1, none⟩ = false ∧ w.frozen? ⟨b, 2, none⟩ = false
theorem Blk3.new (w : World) (x y z : Value) (t : TypeId) : Blk3 (w.alloc (.cells #[x, y, z] t)) w.heap.size x y z := by
  refine ⟨?_, ?_, ?_, ?_, ?_, ?_⟩ <;> simp
theorem Blk3.below {w w1 : World} {b B : Nat} {x y z : Value} (h : Blk3 w b x y z) (hb : Below B w w1) (hB : b < B) : Blk3 w1 b x y z := by
  obtain ⟨c0, c1, c2, f0, f1, f2⟩ := h
  exact ⟨(hb.cell hB).trans c0, (hb.cell hB).trans c1, (hb.cell hB).trans c2, (hb.frozen hB).trans f0, (hb.frozen hB).trans f1, (hb.frozen hB).trans f2⟩
theorem Blk3.set3 {w : World} {b : Nat} {x y z x' y' z' : Value} (h : Blk3 w b x y z) : Blk3 (((w.setCell ⟨b, 0, none⟩ x').setCell ⟨b, 1, none⟩ y').setCell ⟨b, 2, none⟩ z') b x' y' z' := by
  obtain ⟨c0, c1, c2, f0, f1, f2⟩ := h
  have n01 : (⟨b, 0, none⟩ : Addr) ≠ ⟨b, 1, none⟩ := by simp
  have n02 : (⟨b, 0, none⟩ : Addr) ≠ ⟨b, 2, none⟩ := by simp
  have n12 : (⟨b, 1, none⟩ : Addr) ≠ ⟨b, 2, none⟩ := by simp
  refine ⟨?_, ?_, ?_, ?_, ?_, ?_⟩
  · rw [World.cell?_setCell_other _ _ _ _ n02.symm, World.cell?_setCell_other _ _ _ _ n01.symm, World.cell?_setCell_same _ _ _ c0]
  · rw [World.cell?_setCell_other _ _ _ _ n12.symm, World.cell?_setCell_same _ _ _ (by rw [World.cell?_setCell_other _ _ _ _ n01]; exact c1)]
  · rw [World.cell?_setCell_same _ _ _ (by rw [World.cell?_setCell_other _ _ _ _ n12, World.cell?_setCell_other _ _ _ _ n02]; exact c2)]
  all_goals simpa only [World.frozen?_setCell]
theorem results_v1 {fn : Func} {p : Tmp} (h : fn.results = #[.cell p 25]) (tmps : Array Value) (w : World) {b : Nat} {x y z : Value} (hp : tmps.getD p undef = .pointer (some ⟨b, 0, none⟩)) (hb : Blk3 w b x y z) :
    (results fn tmps).run Tryz.prog w = .ok (.agg #[x, y, z]) w := by
  obtain ⟨c0, c1, c2, _⟩ := hb
  have hp' : tmps[p]?.getD undef = .pointer (some ⟨b, 0, none⟩) := by simpa using hp
  simp [results, h, go_sem, hp', c0, c1, c2]
theorem results_v2 {fn : Func} {p u : Tmp} (h : fn.results = #[.cell p 25, .tmp u]) (tmps : Array Value) (w : World) {b : Nat} {x y z : Value} (hp : tmps.getD p undef = .pointer (some ⟨b, 0, none⟩)) (hb : Blk3 w b x y z) :
    (results fn tmps).run Tryz.prog w = .ok (.tuple #[.agg #[x, y, z], tmps.getD u undef]) w := by
  obtain ⟨c0, c1, c2, _⟩ := hb
  have hp' : tmps[p]?.getD undef = .pointer (some ⟨b, 0, none⟩) := by simpa using hp
  simp [results, h, go_sem, hp', c0, c1, c2]
theorem results_v3 {fn : Func} {p u v : Tmp} (h : fn.results = #[.cell p 25, .tmp u, .tmp v]) (tmps : Array Value) (w : World) {b : Nat} {x y z : Value} (hp : tmps.getD p undef = .pointer (some ⟨b, 0, none⟩)) (hb : Blk3 w b x y z) :
    (results fn tmps).run Tryz.prog w = .ok (.tuple #[.agg #[x, y, z], tmps.getD u undef, tmps.getD v undef]) w := by
  obtain ⟨c0, c1, c2, _⟩ := hb
  have hp' : tmps[p]?.getD undef = .pointer (some ⟨b, 0, none⟩) := by simpa using hp
  simp [results, h, go_sem, hp', c0, c1, c2]
theorem below_new {w w1 : World} {o : Obj} (hb : Below (w.alloc o).heap.size (w.alloc o) w1) : Below w.heap.size w w1 :=
  ((Below.refl _ _).alloc (Nat.le_refl _) o).trans (hb.mono (by simp))
/-- a value as the program has it -/
abbrev VV (k n : Int) (s : ByteArray) : Value := .agg #[.int .i64 k, .int .i64 n, .string s]
def vnone : Value := VV 0 0 ⟨#[]⟩
/-- is it a valid value? -/
def rightV (k n : Int) (l : List UInt8) : Bool :=
  if k = 0 then decide (n = 0) && decide (l = []) else if k = 1 then fitsB n 32 && decide (l = []) else if k = 2 then decide (l = [])
  else if k = 3 then decide (n = 0) && decide (l.length ≤ 120) && (sg l).isSome else if k = 4 then decide (n = 0) && decide (l.length ≤ 120) else false

theorem vlong_any (n : Int) (w : World) : Calls Tryz.prog 128 #[.int .i64 n] w fun e w' => e = .returned (VV 2 n ⟨#[]⟩) ∧ Below w.heap.size w w' := by
  go_enter Tryz.func128, Tryz.ntmps128
  go_wp2_with fail
  go_returns
  exact ⟨rfl, by go_grown⟩

theorem fits32 (n : Int) (w : World) : Calls Tryz.prog 115 #[.int .i64 n, .int .i64 32] w fun e w' => e = .returned (.bool (fitsB n 32)) ∧ w = w' := fits_any n 32 w (by omega) (by omega)
theorem rfits32 (n : Int) (w : World) (h3 : -9223372036854775808 ≤ n) (h4 : n < 9223372036854775808) : Calls Tryz.prog 47 #[.int .i64 n, .int .i64 32] w fun e w' => e = .returned (.bool (fitsB n 32)) ∧ w = w' := rfits_any n 32 w (by omega) (by omega) h3 h4
/-- what Int returns -/
def inE (n : Int) : Nat := if fitsB n 32 then 0 else 10
def inV (n : Int) : Value := .tuple #[if inE n = 0 then VV 1 n ⟨#[]⟩ else VV 0 0 ⟨#[]⟩, .int .i64 (inE n : Nat)]
set_option maxHeartbeats 400000 in
theorem vint_any (n : Int) (w : World) : Calls Tryz.prog 129 #[.int .i64 n] w fun e w' => e = .returned (inV n) ∧ Below w.heap.size w w' := by
  have HF := fun w => fits32 n w
  have Hv : Hid (inV n = .tuple #[if (if fitsB n 32 then 0 else 10) = 0 then VV 1 n ⟨#[]⟩ else VV 0 0 ⟨#[]⟩, .int .i64 ((if fitsB n 32 then 0 else 10 : Nat) : Nat)]) := rfl
  generalize fitsB n 32 = b at HF Hv
  cases b
  all_goals
    go_enter Tryz.func129, Tryz.ntmps129
    go_wp2_with fail
    refine (HF _).mono ?_
    rintro e w1 ⟨rfl, rfl⟩
    go_wp2_with fail
    go_returns
    exact ⟨by rw [Hv.out]; rfl, by go_grown⟩

/-- why a text is none, or 0 -/
def txE (l : List UInt8) : Nat := if 120 < l.length then 3 else if (sg l).isSome = true then 0 else 5
def byE (l : List UInt8) : Nat := if 120 < l.length then 3 else 0
set_option maxHeartbeats 400000 in
theorem checkBytes_any (s : ByteArray) (w : World) : Calls Tryz.prog 117 #[.string s] w fun e w' => e = .returned (.int .i64 (byE (bs s) : Nat)) ∧ w = w' := by
  have Hv : Hid (byE (bs s) = if 120 < s.size then 3 else 0) := by show _ = _; unfold byE; rw [bs_length]
  by_cases h : 120 < s.size
  · have d : decide (120 < (s.size : Int)) = true := by simp; omega
    rw [if_pos h] at Hv
    go_enter Tryz.func117, Tryz.ntmps117
    go_wp2_with fail
    go_ret
    exact ⟨by rw [Hv.out]; rfl, rfl⟩
  · have d : decide (120 < (s.size : Int)) = false := by simp; omega
    rw [if_neg h] at Hv
    go_enter Tryz.func117, Tryz.ntmps117
    go_wp2_with fail
    go_ret
    exact ⟨by rw [Hv.out]; rfl, rfl⟩
set_option maxHeartbeats 400000 in
theorem checkText_any (s : ByteArray) (w : World) (ht : UTab w) : Calls Tryz.prog 116 #[.string s] w fun e w' => e = .returned (.int .i64 (txE (bs s) : Nat)) ∧ Below w.heap.size w w' := by
  have Hv : Hid (txE (bs s) = if 120 < s.size then 3 else if (sg (bs s)).isSome = true then 0 else 5) := by show _ = _; unfold txE; rw [bs_length]
  by_cases h : 120 < s.size
  · have d : decide (120 < (s.size : Int)) = true := by simp; omega
    rw [if_pos h] at Hv
    go_enter Tryz.func116, Tryz.ntmps116
    go_wp2_with fail
    go_ret
    exact ⟨by rw [Hv.out]; rfl, Below.refl _ _⟩
  · have d : decide (120 < (s.size : Int)) = false := by simp; omega
    rw [if_neg h] at Hv
    have HR := Lib.hid (right_any s w ht (by omega))
    generalize (sg (bs s)).isSome = b at HR Hv
    cases b
    all_goals
      go_enter Tryz.func116, Tryz.ntmps116
      go_wp2_with fail
      refine HR.out.mono ?_
      rintro e w1 ⟨rfl, hb1⟩
      go_wp2_with fail
      go_ret
      exact ⟨by rw [Hv.out]; rfl, hb1⟩

/-- what Text and Bytes return -/
def txV (s : ByteArray) : Value := .tuple #[if txE (bs s) = 0 then VV 3 0 s else VV 0 0 ⟨#[]⟩, .int .i64 (txE (bs s) : Nat)]
def byV (s : ByteArray) : Value := .tuple #[if byE (bs s) = 0 then VV 4 0 s else VV 0 0 ⟨#[]⟩, .int .i64 (byE (bs s) : Nat)]
theorem byE_cases (l : List UInt8) : byE l = 0 ∨ byE l = 3 := by unfold byE; split <;> simp
theorem txE_cases (l : List UInt8) : txE l = 0 ∨ txE l = 3 ∨ txE l = 5 := by
  unfold txE
  repeat' split
  all_goals simp
set_option maxHeartbeats 400000 in
theorem vbytes_any (s : ByteArray) (w : World) : Calls Tryz.prog 135 #[.string s] w fun e w' => e = .returned (byV s) ∧ Below w.heap.size w w' := by
  have HC := fun w => checkBytes_any s w
  have Hv : Hid (byV s = .tuple #[if byE (bs s) = 0 then VV 4 0 s else VV 0 0 ⟨#[]⟩, .int .i64 (byE (bs s) : Nat)]) := rfl
  rcases byE_cases (bs s) with h | h
  all_goals
    rw [h] at HC Hv
    go_enter Tryz.func135, Tryz.ntmps135
    go_wp2_with fail
    refine (HC _).mono ?_
    rintro e w1 ⟨rfl, rfl⟩
    go_wp2_with fail
    go_returns
    exact ⟨by rw [Hv.out]; rfl, by go_grown⟩
set_option maxHeartbeats 400000 in
theorem vtext_any (s : ByteArray) (w : World) (ht : UTab w) : Calls Tryz.prog 132 #[.string s] w fun e w' => e = .returned (txV s) ∧ Below w.heap.size w w' := by
  have HC := fun w ht => checkText_any s w ht
  have Hv : Hid (txV s = .tuple #[if txE (bs s) = 0 then VV 3 0 s else VV 0 0 ⟨#[]⟩, .int .i64 (txE (bs s) : Nat)]) := rfl
  rcases txE_cases (bs s) with h | h | h
  all_goals
    rw [h] at HC Hv
    have HC' := Lib.hid HC; clear HC
    go_enter Tryz.func132, Tryz.ntmps132
    go_wp2_with fail
    refine (HC'.out _ (ht.below ((Below.refl _ _).alloc (Nat.le_refl _) _) (Nat.le_refl _))).mono ?_
    rintro e w1 ⟨rfl, hb⟩
    have HB := Lib.hid ((Blk3.new w _ _ _ _).below hb (by simp))
    obtain ⟨c0, c1, c2, f0, f1, f2⟩ := HB.out
    have hb' : Below w.heap.size w w1 := below_new hb
    go_wp2_with fail
    try simp only [Exit.inBlock, Exit.then]
    refine bodyPost_ret (results_v2 rfl _ _ rfl HB.out.set3) rfl ?_
    exact ⟨by rw [Hv.out]; rfl, by go_grown⟩
theorem wf64 {n : Int} (h : (Lit.int .i64 n).wf = true) : -9223372036854775808 ≤ n ∧ n < 9223372036854775808 := by
  have h2 : IntKind.i64.min ≤ n ∧ n ≤ 9223372036854775807 := by simpa [Lit.wf] using h
  have h3 : (-9223372036854775808 : Int) = IntKind.i64.min := by decide
  omega
end Go.Proofs.YtebldfnocpcddaaGreatDoor

/-
  Contracts of package value's Right and of the document's own.
-/
namespace Go.Proofs.YtebldfnocpcddaaGreatDoor
open Go.RowKit

theorem emp_dec (s : ByteArray) : (s.toList == []) = decide (bs s = []) := by
  rw [ByteArray.toList_eq]
  show (bs s == []) = _
  cases bs s <;> simp
theorem zero_dec (n : Int) : (n == 0) = decide (n = 0) := by
  by_cases h : n = 0 <;> simp [h]
theorem rightV_cases (k n : Int) (l : List UInt8) : (k = 0 ∧ rightV k n l = (decide (n = 0) && decide (l = []))) ∨ (k = 1 ∧ rightV k n l = (fitsB n 32 && decide (l = []))) ∨ (k = 2 ∧ rightV k n l = decide (l = [])) ∨
    (k = 3 ∧ rightV k n l = (decide (n = 0) && decide (l.length ≤ 120) && (sg l).isSome)) ∨ (k = 4 ∧ rightV k n l = (decide (n = 0) && decide (l.length ≤ 120))) ∨ (k ≠ 0 ∧ k ≠ 1 ∧ k ≠ 2 ∧ k ≠ 3 ∧ k ≠ 4 ∧ rightV k n l = false) := by
  by_cases h0 : k = 0
  · subst h0; exact .inl ⟨rfl, rfl⟩
  by_cases h1 : k = 1
  · subst h1; exact .inr (.inl ⟨rfl, rfl⟩)
  by_cases h2 : k = 2
  · subst h2; exact .inr (.inr (.inl ⟨rfl, rfl⟩))
  by_cases h3 : k = 3
  · subst h3; exact .inr (.inr (.inr (.inl ⟨rfl, rfl⟩)))
  by_cases h4 : k = 4
  · subst h4; exact .inr (.inr (.inr (.inr (.inl ⟨rfl, rfl⟩))))
  exact .inr (.inr (.inr (.inr (.inr ⟨h0, h1, h2, h3, h4, by unfold rightV; rw [if_neg h0, if_neg h1, if_neg h2, if_neg h3, if_neg h4]⟩))))
theorem txE_zero (l : List UInt8) : ((txE l : Int) == 0) = (decide (l.length ≤ 120) && (sg l).isSome) := by
  unfold txE
  by_cases h : 120 < l.length
  · have : decide (l.length ≤ 120) = false := by simp; omega
    rw [if_pos h, this]; rfl
  · have : decide (l.length ≤ 120) = true := by simp; omega
    rw [if_neg h, this]
    cases (sg l).isSome <;> rfl
theorem byE_zero (l : List UInt8) : ((byE l : Int) == 0) = decide (l.length ≤ 120) := by
  unfold byE
  by_cases h : 120 < l.length
  · have : decide (l.length ≤ 120) = false := by simp; omega
    rw [if_pos h, this]; rfl
  · have : decide (l.length ≤ 120) = true := by simp; omega
    rw [if_neg h, this]; rfl

set_option maxRecDepth 100000 in
set_option maxHeartbeats 1600000 in
theorem vright_any (k n : Int) (s : ByteArray) (w : World) (ht : UTab w) : Calls Tryz.prog 94 #[VV k n s] w fun e w' => e = .returned (.bool (rightV k n (bs s))) ∧ Below w.heap.size w w' := by
  have HT := Lib.hid ht; clear ht
  rcases rightV_cases k n (bs s) with ⟨rfl, hv⟩ | ⟨rfl, hv⟩ | ⟨rfl, hv⟩ | ⟨rfl, hv⟩ | ⟨rfl, hv⟩ | ⟨h0, h1, h2, h3, h4, hv⟩
  · have Hv := Lib.hid hv; clear hv
    have e1 := emp_dec s
    have e2 := zero_dec n
    generalize decide (bs s = []) = b at e1 Hv
    generalize decide (n = 0) = c at e2 Hv
    cases b <;> cases c
    all_goals
      go_enter Tryz.func94, Tryz.ntmps94
      go_wp2_with fail
      go_ret
      exact ⟨by rw [Hv.out]; rfl, by go_grown⟩
  · have Hv := Lib.hid hv; clear hv
    have e1 := emp_dec s
    have HF := fun w => fits32 n w
    generalize decide (bs s = []) = b at e1 Hv
    generalize fitsB n 32 = c at HF Hv
    cases b <;> cases c
    all_goals
      go_enter Tryz.func94, Tryz.ntmps94
      go_wp2_with (go_at_call 115; refine (HF _).mono ?_; rintro e w1 ⟨rfl, rfl⟩)
      go_ret
      exact ⟨by rw [Hv.out]; rfl, by go_grown⟩
  · have Hv := Lib.hid hv; clear hv
    have e1 := emp_dec s
    generalize decide (bs s = []) = b at e1 Hv
    cases b
    all_goals
      go_enter Tryz.func94, Tryz.ntmps94
      go_wp2_with fail
      go_ret
      exact ⟨by rw [Hv.out]; rfl, by go_grown⟩
  · have Hv := Lib.hid hv; clear hv
    have e2 := zero_dec n
    have HC := fun w ht => checkText_any s w ht
    have e3 := txE_zero (bs s)
    rw [Bool.and_assoc, ← e3] at Hv
    clear e3
    generalize decide (n = 0) = c at e2 Hv
    generalize (txE (bs s) : Nat) = x at HC Hv
    have HC' := Lib.hid HC; clear HC
    cases c
    · go_enter Tryz.func94, Tryz.ntmps94
      go_wp2_with fail
      go_ret
      exact ⟨by rw [Hv.out]; rfl, by go_grown⟩
    · cases hx : ((x : Int) == 0)
      all_goals
        rw [hx] at Hv
        go_enter Tryz.func94, Tryz.ntmps94
        go_wp2_with fail
        refine (HC'.out _ (HT.out.below ((Below.refl _ _).alloc (Nat.le_refl _) _) (Nat.le_refl _))).mono ?_
        rintro e w1 ⟨rfl, hb⟩
        have hb' := below_new hb
        go_wp2_with fail
        go_ret
        exact ⟨by rw [Hv.out]; rfl, by go_grown⟩
  · have Hv := Lib.hid hv; clear hv
    have e2 := zero_dec n
    have HC := fun w => checkBytes_any s w
    have e3 := byE_zero (bs s)
    rw [← e3] at Hv
    clear e3
    generalize decide (n = 0) = c at e2 Hv
    generalize (byE (bs s) : Nat) = x at HC Hv
    have HC' := Lib.hid HC; clear HC
    cases c
    · go_enter Tryz.func94, Tryz.ntmps94
      go_wp2_with fail
      go_ret
      exact ⟨by rw [Hv.out]; rfl, by go_grown⟩
    · cases hx : ((x : Int) == 0)
      all_goals
        rw [hx] at Hv
        go_enter Tryz.func94, Tryz.ntmps94
        go_wp2_with fail
        refine (HC'.out _).mono ?_
        rintro e w1 ⟨rfl, rfl⟩
        go_wp2_with fail
        go_ret
        exact ⟨by rw [Hv.out]; rfl, by go_grown⟩
  · have Hv := Lib.hid hv; clear hv
    have d0 : (k == 0) = false := by simpa using h0
    have d1 : (k == 1) = false := by simpa using h1
    have d2 : (k == 2) = false := by simpa using h2
    have d3 : (k == 3) = false := by simpa using h3
    have d4 : (k == 4) = false := by simpa using h4
    clear h0 h1 h2 h3 h4
    go_enter Tryz.func94, Tryz.ntmps94
    go_wp2_with fail
    go_ret
    exact ⟨by rw [Hv.out]; rfl, by go_grown⟩

set_option maxRecDepth 100000 in
set_option maxHeartbeats 1600000 in
theorem vrright_any (k n : Int) (s : ByteArray) (w : World) (h1 : -9223372036854775808 ≤ n) (h2 : n < 9223372036854775808) : Calls Tryz.prog 26 #[VV k n s] w fun e w' => e = .returned (.bool (rightV k n (bs s))) ∧ Below w.heap.size w w' := by
  have HF0 := Lib.hid (fun w => rfits32 n w h1 h2); clear h1 h2
  rcases rightV_cases k n (bs s) with ⟨rfl, hv⟩ | ⟨rfl, hv⟩ | ⟨rfl, hv⟩ | ⟨rfl, hv⟩ | ⟨rfl, hv⟩ | ⟨h0, h1, h2, h3, h4, hv⟩
  · have Hv := Lib.hid hv; clear hv
    have e1 := emp_dec s
    have e2 := zero_dec n
    generalize decide (bs s = []) = b at e1 Hv
    generalize decide (n = 0) = c at e2 Hv
    cases b <;> cases c
    all_goals
      go_enter Tryz.func26, Tryz.ntmps26
      go_wp2_with fail
      go_ret
      exact ⟨by rw [Hv.out]; rfl, by go_grown⟩
  · have Hv := Lib.hid hv; clear hv
    have e1 := emp_dec s
    generalize decide (bs s = []) = b at e1 Hv
    generalize fitsB n 32 = c at HF0 Hv
    cases b <;> cases c
    all_goals
      go_enter Tryz.func26, Tryz.ntmps26
      go_wp2_with (go_at_call 47; refine (HF0.out _).mono ?_; rintro e w1 ⟨rfl, rfl⟩)
      go_ret
      exact ⟨by rw [Hv.out]; rfl, by go_grown⟩
  · have Hv := Lib.hid hv; clear hv
    have e1 := emp_dec s
    generalize decide (bs s = []) = b at e1 Hv
    cases b
    all_goals
      go_enter Tryz.func26, Tryz.ntmps26
      go_wp2_with fail
      go_ret
      exact ⟨by rw [Hv.out]; rfl, by go_grown⟩
  · have Hv := Lib.hid hv; clear hv
    have e2 := zero_dec n
    generalize decide (n = 0) = c at e2 Hv
    rw [bs_length] at Hv
    cases c
    · go_enter Tryz.func26, Tryz.ntmps26
      go_wp2_with fail
      go_ret
      exact ⟨by rw [Hv.out]; rfl, by go_grown⟩
    · by_cases hx : s.size ≤ 120
      · have d : decide ((s.size : Int) ≤ 120) = true := by simp; omega
        have d' : decide (s.size ≤ 120) = true := by simp; omega
        rw [d'] at Hv; clear d'
        have HC' := Lib.hid (fun w => rright_any s w (by omega))
        generalize (sg (bs s)).isSome = b at HC' Hv
        cases b
        all_goals
          go_enter Tryz.func26, Tryz.ntmps26
          go_wp2_with fail
          refine (HC'.out _).mono ?_
          rintro e w1 ⟨rfl, hb⟩
          have hb' := below_new hb
          go_wp2_with fail
          go_ret
          exact ⟨by rw [Hv.out]; rfl, by go_grown⟩
      · have d : decide ((s.size : Int) ≤ 120) = false := by simp; omega
        have d' : decide (s.size ≤ 120) = false := by simp; omega
        rw [d'] at Hv; clear d'
        go_enter Tryz.func26, Tryz.ntmps26
        go_wp2_with fail
        go_ret
        exact ⟨by rw [Hv.out]; rfl, by go_grown⟩
  · have Hv := Lib.hid hv; clear hv
    have e2 := zero_dec n
    generalize decide (n = 0) = c at e2 Hv
    rw [bs_length] at Hv
    have hd : decide ((s.size : Int) ≤ 120) = decide (s.size ≤ 120) := by rw [decide_eq_decide]; omega
    generalize decide (s.size ≤ 120) = b at hd Hv
    cases c <;> cases b
    all_goals
      go_enter Tryz.func26, Tryz.ntmps26
      go_wp2_with fail
      go_ret
      exact ⟨by rw [Hv.out]; rfl, by go_grown⟩
  · have Hv := Lib.hid hv; clear hv
    have d0 : (k == 0) = false := by simpa using h0
    have d1 : (k == 1) = false := by simpa using h1
    have d2 : (k == 2) = false := by simpa using h2
    have d3 : (k == 3) = false := by simpa using h3
    have d4 : (k == 4) = false := by simpa using h4
    clear h0 h1 h2 h3 h4
    go_enter Tryz.func26, Tryz.ntmps26
    go_wp2_with fail
    go_ret
    exact ⟨by rw [Hv.out]; rfl, by go_grown⟩
end Go.Proofs.YtebldfnocpcddaaGreatDoor

/-
  Contracts of package value's Order (with the library's cmp.Compare and cmp.Or at int and int64) and of the document's own.
-/
namespace Go.Proofs.YtebldfnocpcddaaGreatDoor
open Go.RowKit

def cmpI (x y : Int) : Int := if x < y then -1 else if y < x then 1 else 0
def or3 (x y z : Int) : Int := if x ≠ 0 then x else if y ≠ 0 then y else z
/-- the order of values -/
def ordV (k n : Int) (l : List UInt8) (k' n' : Int) (l' : List UInt8) : Int := or3 (cmpI k k') (cmpI n n') (ordN l l')
theorem cmpI_neg (x y : Int) : cmpI y x = -cmpI x y := by
  unfold cmpI
  by_cases h1 : x < y
  · rw [if_neg (by omega), if_pos h1, if_pos h1]; rfl
  · by_cases h2 : y < x
    · rw [if_pos h2, if_neg h1, if_pos h2]
    · rw [if_neg h2, if_neg h1, if_neg h1, if_neg h2]; rfl
theorem cmpI_zero {x y : Int} : cmpI x y = 0 ↔ x = y := by
  unfold cmpI
  by_cases h1 : x < y
  · rw [if_pos h1]; omega
  · by_cases h2 : y < x
    · rw [if_neg h1, if_pos h2]; omega
    · rw [if_neg h1, if_neg h2]; omega
theorem ordN_neg : ∀ l m : List UInt8, ordN m l = -ordN l m
  | [], [] => rfl
  | [], _ :: _ => rfl
  | _ :: _, [] => rfl
  | a :: r, b :: s => by
    simp only [ordN]
    by_cases h1 : a.toNat < b.toNat
    · rw [if_neg (by omega), if_pos h1, if_pos h1]; rfl
    · by_cases h2 : b.toNat < a.toNat
      · rw [if_pos h2, if_neg h1, if_pos h2]
      · rw [if_neg h2, if_neg h1, if_neg h1, if_neg h2]; exact ordN_neg r s
theorem ordV_neg (k n : Int) (l : List UInt8) (k' n' : Int) (l' : List UInt8) : ordV k' n' l' k n l = -ordV k n l k' n' l' := by
  unfold ordV or3
  rw [cmpI_neg k k', cmpI_neg n n', ordN_neg l l']
  repeat' split
  all_goals omega
theorem ordV_zero (k n : Int) (l : List UInt8) (k' n' : Int) (l' : List UInt8) : ordV k n l k' n' l' = 0 ↔ k = k' ∧ n = n' ∧ l = l' := by
  unfold ordV or3
  by_cases h1 : cmpI k k' = 0
  · rw [h1, if_neg (by simp)]
    have e1 := cmpI_zero.1 h1
    by_cases h2 : cmpI n n' = 0
    · rw [h2, if_neg (by simp)]
      have e2 := cmpI_zero.1 h2
      constructor
      · intro h; exact ⟨e1, e2, ordN_zero h⟩
      · rintro ⟨_, _, rfl⟩; exact ordN_self _
    · rw [if_pos h2]
      constructor
      · intro h; exact absurd h h2
      · rintro ⟨_, h, _⟩; exact absurd (cmpI_zero.2 h) h2
  · rw [if_pos h1]
    constructor
    · intro h; exact absurd h h1
    · rintro ⟨h, _⟩; exact absurd (cmpI_zero.2 h) h1

end Go.Proofs.YtebldfnocpcddaaGreatDoor

/-
  A parameter of type api.Value, opened and shut.
-/
namespace Go.Proofs.YtebldfnocpcddaaGreatDoor
open Go.ChangeShapes Go.WideShapes Go.ChangeAt Go.RowKit Go.Joins

set_option maxRecDepth 100000 in
theorem cellsV : Tryz.prog.cellsOf 25 = 3 := by kernel_rfl
set_option maxRecDepth 100000 in
theorem openV {H : Type} {enc : TypeId × Value → H} {W : World} {base : Nat} {v : Value} {d : DataW H} {p : List MemPlace} {sp : Nat → Bool}
    (hv : Value.okWide Tryz.prog W .any base 25 v) (h : DataW.Trod enc Tryz.prog W 0 sp true 25 v d p) :
    ∃ (k n : Int) (s : ByteArray), v = VV k n s ∧ d = .agg [.lit (.int .i64 k), .lit (.int .i64 n), .lit (.string s.data.toList)] ∧ p = [] ∧ (Lit.int .i64 k).wf = true ∧ (Lit.int .i64 n).wf = true ∧ s.size ≤ maxLen := by
  obtain ⟨v0, v1, v2, y0, y1, y2, m, rfl, rfl, rfl, h0, h1, h2⟩ := open_agg3 Tryz.underlying25 (by kernel_rfl) cellsV hv h
  obtain ⟨k, e0, rfl, w0⟩ := DataW.trod_int Tryz.underlying3 h0
  obtain ⟨n, e1, rfl, w1⟩ := DataW.trod_int Tryz.underlying2 h1
  obtain ⟨s, e2, rfl, w2⟩ := DataW.trod_string Tryz.underlying9 h2
  simp at e0 e1 e2
  subst e0 e1 e2
  exact ⟨k, n, s, rfl, rfl, rfl, w0, w1, w2⟩
set_option maxRecDepth 100000 in
theorem shutV {H : Type} {enc : TypeId × Value → H} (W : World) (sp : Nat → Bool) {k n : Int} {s : ByteArray} (w0 : (Lit.int .i64 k).wf = true) (w1 : (Lit.int .i64 n).wf = true) (w2 : s.size ≤ maxLen) :
    DataW.Trod enc Tryz.prog W 0 sp true 25 (VV k n s) (.agg [.lit (.int .i64 k), .lit (.int .i64 n), .lit (.string s.data.toList)]) [] :=
  shut_agg3 (y0 := (.lit (.int .i64 k), [])) (y1 := (.lit (.int .i64 n), [])) (y2 := (.lit (.string s.data.toList), [])) Tryz.underlying25 (by kernel_rfl) cellsV
    ⟨1, by simp [DataW.trod, Tryz.underlying3, w0]⟩ ⟨1, by simp [DataW.trod, Tryz.underlying2, w1]⟩ ⟨1, by simp [DataW.trod, Tryz.underlying9, w2]⟩
end Go.Proofs.YtebldfnocpcddaaGreatDoor

/-
  Bytes as pairs of digits, plainly. It speaks of no program.
-/
namespace Go.Proofs.YtebldfnocpcddaaGreatDoor

/-- a byte's two digits -/
def hp (c : UInt8) : List UInt8 := [hexd (c.toNat / 16), hexd (c.toNat % 16)]
/-- the digits of bytes -/
def hxs (l : List UInt8) : List UInt8 := l.flatMap hp
theorem hxs_nil : hxs [] = [] := rfl
theorem hxs_cons (c : UInt8) (r : List UInt8) : hxs (c :: r) = hp c ++ hxs r := by simp [hxs]
theorem hxs_snoc (l : List UInt8) (c : UInt8) : hxs (l ++ [c]) = hxs l ++ hp c := by simp [hxs]
theorem hxs_len : ∀ l : List UInt8, (hxs l).length = 2 * l.length
  | [] => rfl
  | c :: r => by rw [hxs_cons, List.length_append, hxs_len r, List.length_cons]; simp [hp]; omega
theorem hexd_ne (n : Nat) (h : n < 16) : hexd n ≠ 34 := by
  have : ∀ k : Fin 16, hexd k.1 ≠ 34 := by decide
  exact this ⟨n, h⟩
theorem hexd_hx {c : UInt8} (h : 0 ≤ hx c) : hexd (hx c).toNat = c := by
  have : ∀ k : Fin 256, 0 ≤ hx (UInt8.ofNat k.1) → hexd (hx (UInt8.ofNat k.1)).toNat = UInt8.ofNat k.1 := by decide +kernel
  have h2 := this ⟨c.toNat, c.toNat_lt⟩
  simp only [UInt8.ofNat_toNat] at h2
  exact h2 h
theorem hp_of {a b : UInt8} (ha : 0 ≤ hx a) (hb : 0 ≤ hx b) : hp (UInt8.ofNat (16 * (hx a).toNat + (hx b).toNat)) = [a, b] := by
  have h1 := hx_range a
  have h2 := hx_range b
  have e : (UInt8.ofNat (16 * (hx a).toNat + (hx b).toNat)).toNat = 16 * (hx a).toNat + (hx b).toNat := by
    rw [UInt8.toNat_ofNat']; exact Nat.mod_eq_of_lt (by omega)
  unfold hp
  rw [e, show (16 * (hx a).toNat + (hx b).toNat) / 16 = (hx a).toNat by omega, show (16 * (hx a).toNat + (hx b).toNat) % 16 = (hx b).toNat by omega, hexd_hx ha, hexd_hx hb]
theorem hp_mem {c d : UInt8} (h : d ∈ hp c) : 0 ≤ hx d ∧ d ≠ 34 := by
  have hc := c.toNat_lt
  unfold hp at h
  rcases List.mem_cons.1 h with rfl | h
  · exact ⟨by rw [hx_hexd _ (by omega)]; omega, hexd_ne _ (by omega)⟩
  · simp at h; subst h
    exact ⟨by rw [hx_hexd _ (by omega)]; omega, hexd_ne _ (by omega)⟩
theorem hxs_mem {l : List UInt8} {d : UInt8} (h : d ∈ hxs l) : 0 ≤ hx d ∧ d ≠ 34 := by
  unfold hxs at h
  obtain ⟨c, _, hd⟩ := List.mem_flatMap.1 h
  exact hp_mem hd
theorem hp_inj {c d : UInt8} (h : hp c = hp d) : c = d := by
  have hc := c.toNat_lt
  have hd := d.toNat_lt
  unfold hp at h
  obtain ⟨h1, h2⟩ := List.cons.inj h
  have h3 := (List.cons.inj h2).1
  have e1 := congrArg hx h1
  have e2 := congrArg hx h3
  rw [hx_hexd _ (by omega), hx_hexd _ (by omega)] at e1 e2
  refine UInt8.toNat_inj.1 ?_
  omega
theorem hxs_inj : ∀ {t u x y : List UInt8}, hxs t ++ 34 :: x = hxs u ++ 34 :: y → t = u ∧ x = y
  | [], [], x, y, h => by simp [hxs] at h; exact ⟨rfl, h⟩
  | [], d :: u, x, y, h => by
    rw [hxs_cons, hxs_nil, List.nil_append] at h
    exact absurd (List.cons.inj h).1.symm (hexd_ne _ (by have := d.toNat_lt; omega))
  | c :: t, [], x, y, h => by
    rw [hxs_cons, hxs_nil, List.nil_append] at h
    exact absurd (List.cons.inj h).1 (hexd_ne _ (by have := c.toNat_lt; omega))
  | c :: t, d :: u, x, y, h => by
    rw [hxs_cons, hxs_cons, List.append_assoc, List.append_assoc] at h
    have h1 : hp c = hp d := by
      have := congrArg (List.take 2) h
      simpa [hp] using this
    have := hp_inj h1
    subst this
    obtain ⟨rfl, h3⟩ := hxs_inj (List.append_cancel_left h)
    exact ⟨rfl, h3⟩
theorem hxs_inj' {t u : List UInt8} (h : hxs t = hxs u) : t = u := (hxs_inj (x := []) (y := []) (by rw [h])).1
open Classical in
/-- the bytes of the digits up to a quote, how many digits, and whether there are such -/
noncomputable def uh (l : List UInt8) : List UInt8 × Nat × Bool :=
  if h : ∃ t r, l = hxs t ++ 34 :: r then (h.choose, (hxs h.choose).length, true) else ([], 0, false)
theorem uh_yes {l t r : List UInt8} (h : l = hxs t ++ 34 :: r) : uh l = (t, (hxs t).length, true) := by
  have hex : ∃ t r, l = hxs t ++ 34 :: r := ⟨t, r, h⟩
  unfold uh
  rw [dif_pos hex]
  obtain ⟨r2, h2⟩ := hex.choose_spec
  have h3 : hex.choose = t := (hxs_inj (h2.symm.trans h)).1
  rw [h3]
theorem uh_no {l : List UInt8} (h : ∀ t r, l ≠ hxs t ++ 34 :: r) : uh l = ([], 0, false) := by
  unfold uh
  rw [dif_neg]
  rintro ⟨t, r, h2⟩
  exact h t r h2
theorem uh_cases (l : List UInt8) : (∃ t r, l = hxs t ++ 34 :: r ∧ uh l = (t, (hxs t).length, true)) ∨ uh l = ([], 0, false) := by
  by_cases hex : ∃ t r, l = hxs t ++ 34 :: r
  · obtain ⟨t, r, h⟩ := hex
    exact .inl ⟨t, r, h, uh_yes h⟩
  · exact .inr (uh_no fun t r h => hex ⟨t, r, h⟩)
/-- the first quote parts the digits from the rest -/
theorem uh_split {a b : List UInt8} (ha : (34 : UInt8) ∉ a) : (∀ t, a = hxs t → uh (a ++ 34 :: b) = (t, a.length, true)) ∧ ((∀ t, a ≠ hxs t) → uh (a ++ 34 :: b) = ([], 0, false)) := by
  refine ⟨fun t h => ?_, fun h => uh_no fun t r he => ?_⟩
  · rw [uh_yes (t := t) (r := b) (by rw [h]), h]
  · have h34 : (34 : UInt8) ∉ hxs t := fun hm => (hxs_mem hm).2 rfl
    have key : ∀ {a c x y : List UInt8}, (34 : UInt8) ∉ a → (34 : UInt8) ∉ c → a ++ 34 :: x = c ++ 34 :: y → a = c := by
      intro a
      induction a with
      | nil =>
        intro c x y _ h2 h
        cases c with
        | nil => rfl
        | cons d c => simp at h; exact absurd (by rw [← h.1]; simp) h2
      | cons d a ih =>
        intro c x y h1 h2 h
        cases c with
        | nil => simp at h; exact absurd (by rw [h.1]; simp) h1
        | cons e c =>
          simp at h
          rw [h.1, ih (fun hm => h1 (by simp [hm])) (fun hm => h2 (by simp [hm])) h.2]
    exact h t (key ha h34 he)
theorem uh_none {l : List UInt8} (h : (34 : UInt8) ∉ l) : uh l = ([], 0, false) := uh_no fun t r he => h (by rw [he]; simp)
/-- t are the bytes of the first p digits -/
def Unh (l t : List UInt8) (p : Nat) : Prop := p = (hxs t).length ∧ l = hxs t ++ l.drop p
theorem Unh.start (l : List UInt8) : Unh l [] 0 := ⟨rfl, rfl⟩
theorem Unh.stop {l t : List UInt8} {p : Nat} (h : Unh l t p) (hp : l[p]? = some 34) : uh l = (t, p, true) := by
  obtain ⟨h1, h2⟩ := h
  rw [drop_at hp] at h2
  rw [uh_yes h2, h1]
theorem Unh.more {l t : List UInt8} {p : Nat} {c : UInt8} (h : Unh l t p) (h1 : (l.drop p).take 2 = hp c) : Unh l (t ++ [c]) (p + 2) := by
  obtain ⟨h2, h3⟩ := h
  have e : l.drop p = hp c ++ l.drop (p + 2) := by
    rw [← h1, ← List.drop_drop]; exact (List.take_append_drop 2 (l.drop p)).symm
  refine ⟨by rw [hxs_snoc, List.length_append, ← h2]; rfl, ?_⟩
  rw [hxs_snoc, List.append_assoc, ← e]; exact h3
theorem Unh.none {l t : List UInt8} {p : Nat} (h : Unh l t p) (h1 : ∀ c, (l.drop p).take 2 ≠ hp c) (h2 : l[p]? ≠ some 34) : uh l = ([], 0, false) := by
  obtain ⟨h3, h4⟩ := h
  refine uh_no fun u r he => ?_
  have key : ∀ {t u x : List UInt8}, (∀ c, x.take 2 ≠ hp c) → x[0]? ≠ some 34 → hxs t ++ x ≠ hxs u ++ 34 :: r := by
    intro t
    induction t with
    | nil =>
      intro u x hx1 hx2 h
      rw [hxs_nil, List.nil_append] at h
      cases u with
      | nil => rw [h] at hx2; exact hx2 rfl
      | cons d u =>
        refine hx1 d ?_
        rw [h, hxs_cons, List.append_assoc]; simp [hp]
    | cons c t ih =>
      intro u x hx1 hx2 h
      cases u with
      | nil =>
        rw [hxs_cons, hxs_nil, List.nil_append] at h
        exact absurd (List.cons.inj h).1 (hexd_ne _ (by have := c.toNat_lt; omega))
      | cons d u =>
        rw [hxs_cons, hxs_cons, List.append_assoc, List.append_assoc] at h
        have h5 : hp c = hp d := by
          have := congrArg (List.take 2) h
          simpa [hp] using this
        rw [h5] at h
        exact ih hx1 hx2 (List.append_cancel_left h)
  refine key (t := t) (u := u) (x := l.drop p) h1 (by rw [List.getElem?_drop]; exact h2) ?_
  rw [← h4]; exact he
end Go.Proofs.YtebldfnocpcddaaGreatDoor

/-
  Contracts of package value's isDigit, leadingDigits, compose, Number.
-/
namespace Go.Proofs.YtebldfnocpcddaaGreatDoor
open Go.RowKit

set_option maxHeartbeats 400000 in
theorem isDigit_any (c : UInt8) (w : World) : Calls Tryz.prog 103 #[.int .u8 (c.toNat : Int)] w fun e w' => e = .returned (.bool (isD c)) ∧ w = w' := by
  obtain ⟨n, hn⟩ : ∃ n, n = c.toNat := ⟨_, rfl⟩
  have Hc : Hid (isD c = (decide (48 ≤ n) && decide (n ≤ 57))) := by show _ = _; rw [hn]; rfl
  rw [← hn]; clear hn
  go_enter Tryz.func103, Tryz.ntmps103
  go_wp2
  all_goals
    go_ret
    exact ⟨retB (by rw [Hc.out]; simp; omega), rfl⟩

/-- all bytes ahead of place k are digits -/
def DigTo (l : List UInt8) (k : Nat) : Prop := ∀ x ∈ l.take k, isD x = true
theorem DigTo.more {l : List UInt8} {k : Nat} {c : UInt8} (h : DigTo l k) (hk : l[k]? = some c) (hc : isD c = true) : DigTo l (k + 1) := by
  intro x hx
  rw [take_at hk] at hx
  rcases List.mem_append.1 hx with hx | hx
  · exact h x hx
  · simp at hx; subst hx; exact hc
theorem DigTo.stop {l : List UInt8} {k : Nat} {c : UInt8} (h : DigTo l k) (hk : l[k]? = some c) (hc : isD c = false) : ldD l = l.take k :=
  ldD_stop h (fun d hd => by rw [hk] at hd; cases hd; exact hc) (by have := (List.getElem?_eq_some_iff.1 hk).1; omega)
theorem DigTo.full {l : List UInt8} (h : DigTo l l.length) : ldD l = l := by
  have := ldD_stop h (fun d hd => by rw [List.getElem?_eq_none (Nat.le_refl _)] at hd; cases hd) (Nat.le_refl _)
  rwa [List.take_length] at this

set_option maxRecDepth 100000 in
set_option maxHeartbeats 800000 in
theorem leading_any (s : ByteArray) (w : World) (hs : s.size ≤ 1000000) : Calls Tryz.prog 145 #[.string s] w fun e w' => e = .returned (.string ⟨(ldD (bs s)).toArray⟩) ∧ w = w' := by
  go_enter Tryz.func145, Tryz.ntmps145
  go_wp2_with fail
  go_loop [6] (fun i => ∃ k : Nat, k ≤ s.size ∧ i = .int .i64 k ∧ Hid (DigTo (bs s) k)) (fun i => s.size - (intOf i).toNat)
  case atStart => exact ⟨0, by omega, rfl, fun x hx => by cases hx⟩
  case round =>
    obtain ⟨k, hk, rfl, hall⟩ := hrel
    by_cases hlt : k < s.size
    · have Hat := Lib.hid (bs_at s k hlt)
      have hn := isDigit_any s[k] w
      cases hN : isD s[k]
      · rw [hN] at hn
        have Hn := Lib.hid hn; clear hn
        have Hv : Hid (s.extract 0 k = ⟨(ldD (bs s)).toArray⟩) := by
          show _ = _
          refine bs_eq ?_
          rw [bs_front]
          exact (hall.out.stop Hat.out hN).symm
        go_wp2_with (go_at_call 103; refine Hn.out.mono ?_; rintro e w1 ⟨rfl, rfl⟩)
        go_ret
        exact ⟨by rw [← Hv.out]; rfl, rfl⟩
      · rw [hN] at hn
        have Hn := Lib.hid hn; clear hn
        have Hm := Lib.hid (hall.out.more Hat.out hN)
        go_wp2_with (go_at_call 103; refine Hn.out.mono ?_; rintro e w1 ⟨rfl, rfl⟩)
        go_round
        case rel => exact ⟨k + 1, by omega, by go_num, Hm.out⟩
        case measure => simp [intOf]; omega
    · have Hv : Hid (s = ⟨(ldD (bs s)).toArray⟩) := by
        show _ = _
        refine bs_eq ?_
        have hk2 : k = (bs s).length := by rw [bs_length]; omega
        have h2 := hall.out
        rw [hk2] at h2
        exact h2.full.symm
      go_wp2
      go_ret
      exact ⟨congrArg (fun x => Ending.returned (.string x)) Hv.out, rfl⟩

/-- does the number fit? -/
def fits64 (z : Int) : Bool := decide (-9223372036854775808 ≤ z) && decide (z < 9223372036854775808)
theorem fits64_iff (z : Int) : fits64 z = true ↔ -9223372036854775808 ≤ z ∧ z < 9223372036854775808 := by simp [fits64]
/-- one sign, or none -/
def stN (neg : Bool) : Nat := if neg then 1 else 0
def CompV (st : Nat) (l : List UInt8) (w : World) (e : Ending) (w' : World) : Prop := ∃ z, e = .returned (.tuple #[.int .i64 z, .bool (fits64 (numZ st l))]) ∧ (fits64 (numZ st l) = true → z = numZ st l) ∧ w = w'
theorem long_no {l : List UInt8} (h : Can l) (hl : 19 < l.length) (st : Nat) : fits64 (numZ st l) = false := by
  have h0 : l[0]? ≠ some 48 := fun e => by have := h.2.2 e; omega
  have h1 := dv_ge (l.length - 1) l h h0 (by omega)
  have h2 : 10 ^ 19 ≤ 10 ^ (l.length - 1) := Nat.pow_le_pow_right (by omega) (by omega)
  have h3 : 10000000000000000000 ≤ dv l := Nat.le_trans h2 h1
  cases hb : fits64 (numZ st l)
  · rfl
  · rw [fits64_iff] at hb
    unfold numZ at hb
    split at hb <;> omega
theorem dv_bound {l : List UInt8} (h : AllD l) {k : Nat} (hk : k ≤ l.length) (n : Nat) (hn : k ≤ n) : dv (l.take k) < 10 ^ n := by
  have h1 := dv_lt k (l.take k) (fun x hx => h x (List.mem_of_mem_take hx)) (by simp; omega)
  exact Nat.lt_of_lt_of_le h1 (Nat.pow_le_pow_right (by omega) hn)

set_option maxRecDepth 100000 in
set_option maxHeartbeats 800000 in
theorem compose_any (s : ByteArray) (neg : Bool) (w : World) (hc : Can (bs s)) (hs : s.size ≤ 1000000) : Calls Tryz.prog 146 #[.string s, .bool neg] w fun e w' => CompV (stN neg) (bs s) w e w' := by
  by_cases hl : 19 < s.size
  · have Hv := Lib.hid (long_no hc (by rw [bs_length]; exact hl) (stN neg))
    have d : decide (19 < (s.size : Int)) = true := by simp; omega
    go_enter Tryz.func146, Tryz.ntmps146
    go_wp2_with fail
    go_ret2
    exact ⟨0, by rw [Hv.out]; rfl, (fun h => by rw [Hv.out] at h; cases h), rfl⟩
  · have d : decide (19 < (s.size : Int)) = false := by simp; omega
    have HA := Lib.hid hc.2.1; clear hc
    go_enter Tryz.func146, Tryz.ntmps146
    go_wp2_with fail
    go_loop [6, 13] (fun m i => ∃ k q : Nat, k ≤ s.size ∧ i = .int .i64 k ∧ m = .int .u64 q ∧ Hid (q = dv ((bs s).take k))) (fun _ i => s.size - (intOf i).toNat)
    case atStart => exact ⟨0, 0, by omega, rfl, rfl, by show _ = _; simp [dv]⟩
    case round =>
      obtain ⟨k, q, hk, rfl, rfl, hq⟩ := hrel
      by_cases hlt : k < s.size
      · have Hat := Lib.hid (bs_at s k hlt)
        have hq1 : q < 1000000000000000000 := by
          rw [hq.out]; exact dv_bound HA.out (by rw [bs_length]; omega) 18 (by omega)
        have hd := (isD_iff s[k]).1 (HA.out s[k] (by
          obtain ⟨h1, h2⟩ := List.getElem?_eq_some_iff.1 Hat.out
          rw [← h2]; exact List.getElem_mem h1))
        have Hn : Hid (10 * q + (s[k].toNat - 48) = dv ((bs s).take (k + 1))) := by
          show _ = _
          rw [take_at Hat.out, dv_snoc, hq.out]
        obtain ⟨hd1, hd2⟩ := hd
        go_wp2_with fail
        go_round
        case rel => exact ⟨k + 1, 10 * q + (s[k].toNat - 48), by omega, by go_num, by go_num, Hn.out⟩
        case measure => simp [intOf]; omega
      · have hq1 : q < 10000000000000000000 := by
          rw [hq.out]; exact dv_bound HA.out (by rw [bs_length]; omega) 19 (by omega)
        have Hn : Hid (q = dv (bs s)) := by
          show _ = _
          rw [hq.out, List.take_of_length_le (by rw [bs_length]; omega)]
        cases neg
        · have Hv : Hid (numZ (stN false) (bs s) = q) := by show numZ 0 _ = _; rw [Hn.out]; rfl
          by_cases hb : q ≤ 9223372036854775807
          · have d2 : decide ((q : Int) ≤ 9223372036854775807) = true := by simp; omega
            have Hf : Hid (fits64 (q : Int) = true) := by show _ = _; rw [fits64_iff]; omega
            go_wp2_with fail
            go_ret2
            exact ⟨q, by rw [Hv.out, Hf.out]; rfl, (fun _ => Hv.out.symm), rfl⟩
          · have d2 : decide ((q : Int) ≤ 9223372036854775807) = false := by simp; omega
            have Hf : Hid (fits64 (q : Int) = false) := by
              show _ = _
              cases hb2 : fits64 (q : Int)
              · rfl
              · rw [fits64_iff] at hb2; omega
            go_wp2_with fail
            go_ret2
            exact ⟨_, by rw [Hv.out, Hf.out]; rfl, (fun h => by rw [Hv.out, Hf.out] at h; cases h), rfl⟩
        · have Hv : Hid (numZ (stN true) (bs s) = -q) := by show numZ 1 _ = _; rw [Hn.out]; rfl
          by_cases hb : q ≤ 9223372036854775808
          · have d2 : decide ((q : Int) ≤ 9223372036854775808) = true := by simp; omega
            have Hf : Hid (fits64 (-(q : Int)) = true) := by show _ = _; rw [fits64_iff]; omega
            have Hw : Hid (wrap64 (IntKind.u64.wrap (-(q : Int))) = -(q : Int)) := by show _ = _; go_arith
            go_wp2_with fail
            go_ret2
            exact ⟨wrap64 (IntKind.u64.wrap (-(q : Int))), by rw [Hv.out, Hf.out]; rfl, (fun _ => Hw.out.trans Hv.out.symm), rfl⟩
          · have d2 : decide ((q : Int) ≤ 9223372036854775808) = false := by simp; omega
            have Hf : Hid (fits64 (-(q : Int)) = false) := by
              show _ = _
              cases hb2 : fits64 (-(q : Int))
              · rfl
              · rw [fits64_iff] at hb2; omega
            go_wp2_with fail
            go_ret2
            exact ⟨_, by rw [Hv.out, Hf.out]; rfl, (fun h => by rw [Hv.out, Hf.out] at h; cases h), rfl⟩
end Go.Proofs.YtebldfnocpcddaaGreatDoor
