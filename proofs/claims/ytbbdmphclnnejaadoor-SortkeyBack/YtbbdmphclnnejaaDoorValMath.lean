/-
  Numbers as decimal digits, and what a string begins with as a number, plainly. It speaks of no program.
-/
import Derived.Test.YtbbdmphclnnejaaDoorNameMath
namespace Go.Proofs.YtbbdmphclnnejaaDoor

theorem snoc_cases (l : List UInt8) : l = [] ∨ ∃ r c, l = r ++ [c] := by
  rcases List.eq_nil_or_concat l with h | ⟨r, c, h⟩
  · exact .inl h
  · exact .inr ⟨r, c, by rw [h, List.concat_eq_append]⟩
/-- a decimal digit -/
def isD (c : UInt8) : Bool := decide (48 ≤ c.toNat) && decide (c.toNat ≤ 57)
theorem isD_iff (c : UInt8) : isD c = true ↔ 48 ≤ c.toNat ∧ c.toNat ≤ 57 := by simp [isD]
/-- the byte of a digit -/
def dg (n : Nat) : UInt8 := UInt8.ofNat (48 + n)
theorem dg_nat (n : Nat) (h : n < 10) : (dg n).toNat = 48 + n := by simp [dg]; omega
theorem isD_dg (n : Nat) (h : n < 10) : isD (dg n) = true := by rw [isD_iff, dg_nat n h]; omega
theorem dg_of {c : UInt8} (h : isD c = true) : dg (c.toNat - 48) = c := by
  rw [isD_iff] at h
  refine UInt8.toNat_inj.1 ?_
  rw [dg_nat _ (by omega)]; omega
/-- a number in decimal digits -/
def dn (n : Nat) : List UInt8 := if n < 10 then [dg n] else dn (n / 10) ++ [dg (n % 10)]
termination_by n
decreasing_by omega
theorem dn_lt {n : Nat} (h : n < 10) : dn n = [dg n] := by rw [dn, if_pos h]
theorem dn_ge {n : Nat} (h : 10 ≤ n) : dn n = dn (n / 10) ++ [dg (n % 10)] := by rw [dn, if_neg (by omega)]
/-- the number of digits -/
def dv (l : List UInt8) : Nat := l.foldl (fun a c => 10 * a + (c.toNat - 48)) 0
theorem dv_snoc (l : List UInt8) (c : UInt8) : dv (l ++ [c]) = 10 * dv l + (c.toNat - 48) := by simp [dv]
/-- all bytes are digits -/
def AllD (l : List UInt8) : Prop := ∀ c ∈ l, isD c = true
theorem AllD.snoc {l : List UInt8} {c : UInt8} (h : AllD (l ++ [c])) : AllD l ∧ isD c = true := ⟨fun x hx => h x (by simp [hx]), h c (by simp)⟩
theorem dn_all (n : Nat) : AllD (dn n) := by
  induction n using Nat.strongRecOn with
  | ind n ih =>
    by_cases h : n < 10
    · rw [dn_lt h]; intro c hc; simp at hc; subst hc; exact isD_dg n h
    · rw [dn_ge (by omega)]
      intro c hc
      rcases List.mem_append.1 hc with hc | hc
      · exact ih (n / 10) (by omega) c hc
      · simp at hc; subst hc; exact isD_dg _ (by omega)
theorem dn_ne (n : Nat) : dn n ≠ [] := by
  by_cases h : n < 10
  · rw [dn_lt h]; simp
  · rw [dn_ge (by omega)]; simp
theorem dv_dn (n : Nat) : dv (dn n) = n := by
  induction n using Nat.strongRecOn with
  | ind n ih =>
    by_cases h : n < 10
    · rw [dn_lt h]; simp [dv, dg_nat n h]
    · rw [dn_ge (by omega), dv_snoc, ih (n / 10) (by omega), dg_nat _ (by omega)]; omega
theorem dn_inj {a b : Nat} (h : dn a = dn b) : a = b := by rw [← dv_dn a, h, dv_dn]
theorem dv_lt : ∀ (k : Nat) (l : List UInt8), AllD l → l.length = k → dv l < 10 ^ k
  | 0, l, _, hk => by
    rw [List.eq_nil_of_length_eq_zero hk]; simp [dv]
  | k + 1, l, h, hk => by
    rcases snoc_cases l with rfl | ⟨r, c, rfl⟩
    · simp at hk
    · obtain ⟨h1, h2⟩ := h.snoc
      rw [isD_iff] at h2
      have h3 := dv_lt k r h1 (by simpa using hk)
      rw [dv_snoc, Nat.pow_succ]; omega
/-- canonical digits: no zero ahead of others -/
def Can (l : List UInt8) : Prop := l ≠ [] ∧ AllD l ∧ (l[0]? = some 48 → l.length = 1)
theorem Can.snoc {r : List UInt8} {c : UInt8} (h : Can (r ++ [c])) (hr : r ≠ []) : Can r ∧ r[0]? ≠ some 48 := by
  obtain ⟨_, h2, h3⟩ := h
  have h4 : r[0]? ≠ some 48 := fun e => by
    have hl : 0 < r.length := List.length_pos_iff.2 hr
    have := h3 (by rw [List.getElem?_append_left hl]; exact e)
    simp at this; exact hr this
  exact ⟨⟨hr, h2.snoc.1, fun e => absurd e h4⟩, h4⟩
theorem dv_ge : ∀ (k : Nat) (l : List UInt8), Can l → l[0]? ≠ some 48 → l.length = k + 1 → 10 ^ k ≤ dv l
  | 0, l, h, h0, hk => by
    obtain ⟨c, rfl⟩ : ∃ c, l = [c] := by
      cases l with
      | nil => simp at hk
      | cons c r => simp at hk; subst hk; exact ⟨c, rfl⟩
    have h1 := (isD_iff c).1 (h.2.1 c (by simp))
    have h2 : c.toNat ≠ 48 := fun e => h0 (by simp; exact UInt8.toNat_inj.1 e)
    simp [dv]; omega
  | k + 1, l, h, h0, hk => by
    rcases snoc_cases l with rfl | ⟨r, c, rfl⟩
    · simp at hk
    · have hr : r ≠ [] := fun e => by subst e; simp at hk
      obtain ⟨h1, h2⟩ := Can.snoc h hr
      have h3 := dv_ge k r h1 h2 (by simpa using hk)
      rw [dv_snoc, Nat.pow_succ]; omega
theorem dn_dv : ∀ (k : Nat) (l : List UInt8), Can l → l.length = k → dn (dv l) = l
  | 0, l, h, hk => absurd (List.eq_nil_of_length_eq_zero hk) h.1
  | k + 1, l, h, hk => by
    rcases snoc_cases l with rfl | ⟨r, c, rfl⟩
    · simp at hk
    · have hc := h.2.1.snoc.2
      have hc2 := (isD_iff c).1 hc
      by_cases hr : r = []
      · subst hr
        have e : dv ([] ++ [c]) = c.toNat - 48 := by simp [dv]
        rw [e, dn_lt (by omega), dg_of hc]; rfl
      · obtain ⟨h1, h2⟩ := Can.snoc h hr
        have h3 := dn_dv k r h1 (by simpa using hk)
        have h4 : 1 ≤ dv r := by
          obtain ⟨j, hj⟩ : ∃ j, r.length = j + 1 := ⟨r.length - 1, by have := List.length_pos_iff.2 hr; omega⟩
          have := dv_ge j r h1 h2 hj
          have := Nat.one_le_pow j 10 (by omega)
          omega
        rw [dv_snoc, dn_ge (by omega), show (10 * dv r + (c.toNat - 48)) / 10 = dv r by omega, show (10 * dv r + (c.toNat - 48)) % 10 = c.toNat - 48 by omega, h3, dg_of hc]
theorem dn_can (n : Nat) : Can (dn n) := by
  refine ⟨dn_ne n, dn_all n, ?_⟩
  induction n using Nat.strongRecOn with
  | ind n ih =>
    by_cases h : n < 10
    · rw [dn_lt h]; simp
    · rw [dn_ge (by omega), List.getElem?_append_left (List.length_pos_iff.2 (dn_ne _))]
      intro e
      have h1 := ih (n / 10) (by omega) e
      obtain ⟨c, hc⟩ : ∃ c, dn (n / 10) = [c] := by
        cases hd : dn (n / 10) with
        | nil => exact absurd hd (dn_ne _)
        | cons c r => rw [hd] at h1; simp at h1; subst h1; exact ⟨c, rfl⟩
      rw [hc] at e
      simp at e; subst e
      have h2 := dv_dn (n / 10)
      rw [hc] at h2
      simp [dv] at h2; omega
theorem dn_len (n k : Nat) (h : n < 10 ^ k) (hk : 1 ≤ k) : (dn n).length ≤ k := by
  induction k generalizing n with
  | zero => omega
  | succ k ih =>
    by_cases h1 : n < 10
    · rw [dn_lt h1]; simp
    · rw [dn_ge (by omega), List.length_append]
      have hk0 : 1 ≤ k := by
        cases k with
        | zero => simp at h; omega
        | succ j => omega
      have := ih (n / 10) (by rw [Nat.pow_succ] at h; omega) hk0
      simp; omega
/-- an integer in decimal digits -/
def dz (z : Int) : List UInt8 := if z < 0 then 45 :: dn z.natAbs else dn z.natAbs
theorem dz_neg {z : Int} (h : z < 0) : dz z = 45 :: dn z.natAbs := by rw [dz, if_pos h]
theorem dz_pos {z : Int} (h : 0 ≤ z) : dz z = dn z.natAbs := by rw [dz, if_neg (by omega)]
theorem dn_head (n : Nat) : ∃ c r, dn n = c :: r ∧ isD c = true := by
  have h := dn_all n
  cases hd : dn n with
  | nil => exact absurd hd (dn_ne n)
  | cons c r => exact ⟨c, r, rfl, h c (by rw [hd]; simp)⟩
theorem dz_inj {a b : Int} (h : dz a = dz b) : a = b := by
  obtain ⟨c, r, hc, hc2⟩ := dn_head a.natAbs
  obtain ⟨d, s, hd, hd2⟩ := dn_head b.natAbs
  by_cases ha : a < 0
  · by_cases hb : b < 0
    · rw [dz_neg ha, dz_neg hb] at h
      have := dn_inj (List.cons.inj h).2
      omega
    · rw [dz_neg ha, dz_pos (by omega), hd] at h
      have := (List.cons.inj h).1
      subst this; simp [isD] at hd2
  · by_cases hb : b < 0
    · rw [dz_pos (by omega), dz_neg hb, hc] at h
      have := (List.cons.inj h).1
      subst this; simp [isD] at hc2
    · rw [dz_pos (by omega), dz_pos (by omega)] at h
      have := dn_inj h
      omega
theorem dz_len (z : Int) (h1 : -9223372036854775808 ≤ z) (h2 : z < 9223372036854775808) : (dz z).length ≤ 20 := by
  have h3 := dn_len z.natAbs 19 (by omega) (by omega)
  unfold dz; split <;> simp <;> omega
theorem dz_ne (z : Int) : 0 < (dz z).length := by
  have := List.length_pos_iff.2 (dn_ne z.natAbs)
  unfold dz; split <;> simp <;> omega

/-- the digits ahead of what is none -/
def ldD (l : List UInt8) : List UInt8 := l.takeWhile isD
theorem ldD_all (l : List UInt8) : AllD (ldD l) := fun c hc => by
  unfold ldD at hc
  induction l with
  | nil => simp at hc
  | cons a r ih =>
    by_cases ha : isD a = true
    · rw [List.takeWhile_cons_of_pos ha] at hc
      rcases List.mem_cons.1 hc with rfl | hc
      · exact ha
      · exact ih hc
    · rw [List.takeWhile_cons_of_neg ha] at hc; cases hc
theorem ldD_take (l : List UInt8) : l.take (ldD l).length = ldD l := by
  unfold ldD
  induction l with
  | nil => simp
  | cons a r ih =>
    by_cases ha : isD a = true
    · rw [List.takeWhile_cons_of_pos ha]; simp [ih]
    · rw [List.takeWhile_cons_of_neg ha]; simp
theorem ldD_len (l : List UInt8) : (ldD l).length ≤ l.length := by
  have h := congrArg List.length (ldD_take l)
  rw [List.length_take] at h; omega
theorem ldD_stop : ∀ {l : List UInt8} {k : Nat}, (∀ x ∈ l.take k, isD x = true) → (∀ c, l[k]? = some c → isD c = false) → k ≤ l.length → ldD l = l.take k
  | [], k, _, _, hk => by simp [ldD]
  | a :: r, 0, _, h, _ => by
    have := h a rfl
    simp [ldD, this]
  | a :: r, k + 1, h1, h2, hk => by
    have ha : isD a = true := h1 a (by simp)
    have := ldD_stop (l := r) (k := k) (fun x hx => h1 x (by simp [hx])) (fun c hc => h2 c (by simpa using hc)) (by simpa using hk)
    unfold ldD at this ⊢
    rw [List.takeWhile_cons_of_pos ha, this]; rfl
theorem ldD_app {ds r : List UInt8} (h : AllD ds) (hr : ∀ c, r[0]? = some c → isD c = false) : ldD (ds ++ r) = ds := by
  have := ldD_stop (l := ds ++ r) (k := ds.length) (fun x hx => h x (by simpa using hx)) (fun c hc => hr c (by rw [List.getElem?_append_right (Nat.le_refl _), Nat.sub_self] at hc; exact hc)) (by simp)
  rw [this]; simp

/-- how many signs stand ahead of the digits -/
def sgAt (l : List UInt8) : Nat := if l[0]? = some 45 then 1 else 0
/-- the number of these digits, with its sign -/
def numZ (st : Nat) (ds : List UInt8) : Int := if st = 1 then -(dv ds : Int) else (dv ds : Int)
def num2 (st : Nat) (ds : List UInt8) : Int × Nat × Nat :=
  if ds = [] then (0, 0, 5) else if ds[0]? = some 48 ∧ (st = 1 ∨ 1 < ds.length) then (0, 0, 5)
  else if -9223372036854775808 ≤ numZ st ds ∧ numZ st ds < 9223372036854775808 then (numZ st ds, st + ds.length, 0) else (0, 0, 10)
/-- the number at the beginning, its length, the error -/
def numW (l : List UInt8) : Int × Nat × Nat := num2 (sgAt l) (ldD (l.drop (sgAt l)))
theorem sgAt_cases (l : List UInt8) : (sgAt l = 1 ∧ l[0]? = some 45) ∨ (sgAt l = 0 ∧ l[0]? ≠ some 45) := by
  unfold sgAt; split
  · exact .inl ⟨rfl, by assumption⟩
  · exact .inr ⟨rfl, by assumption⟩
theorem can_of {ds : List UInt8} {st : Nat} (h0 : ds ≠ []) (hd : AllD ds) (h : ¬ (ds[0]? = some 48 ∧ (st = 1 ∨ 1 < ds.length))) : Can ds :=
  ⟨h0, hd, fun e => by
    have := List.length_pos_iff.2 h0
    by_cases h1 : 1 < ds.length
    · exact absurd ⟨e, .inr h1⟩ h
    · omega⟩
theorem dz_num {ds : List UInt8} {st : Nat} (hc : Can ds) (hst : st = 0 ∨ st = 1) (h : ¬ (ds[0]? = some 48 ∧ (st = 1 ∨ 1 < ds.length))) : dz (numZ st ds) = (if st = 1 then [45] else []) ++ ds := by
  have h1 := dn_dv _ ds hc rfl
  unfold numZ
  rcases hst with rfl | rfl
  · rw [if_neg (by omega), if_neg (by omega), dz_pos (by omega), Int.natAbs_natCast, h1]; rfl
  · have h2 : ds[0]? ≠ some 48 := fun e => h ⟨e, .inl rfl⟩
    obtain ⟨j, hj⟩ : ∃ j, ds.length = j + 1 := ⟨ds.length - 1, by have := List.length_pos_iff.2 hc.1; omega⟩
    have h3 := dv_ge j ds hc h2 hj
    have := Nat.one_le_pow j 10 (by omega)
    rw [if_pos rfl, if_pos rfl, dz_neg (by omega), Int.natAbs_neg, Int.natAbs_natCast, h1]; rfl
theorem sgAt_take (l : List UInt8) : l.take (sgAt l) = if sgAt l = 1 then [45] else [] := by
  rcases sgAt_cases l with ⟨h1, h2⟩ | ⟨h1, h2⟩
  · rw [h1, if_pos rfl]
    cases l with
    | nil => simp at h2
    | cons a r => simp at h2; subst h2; rfl
  · rw [h1, if_neg (by omega)]; rfl
theorem num_take (l : List UInt8) : l.take (sgAt l + (ldD (l.drop (sgAt l))).length) = (if sgAt l = 1 then [45] else []) ++ ldD (l.drop (sgAt l)) := by
  rw [List.take_add, sgAt_take, ldD_take]
theorem num_back {l : List UInt8} {z : Int} {k : Nat} (h : numW l = (z, k, 0)) : l.take k = dz z ∧ -9223372036854775808 ≤ z ∧ z < 9223372036854775808 ∧ k ≤ l.length := by
  have hst : sgAt l = 0 ∨ sgAt l = 1 := by rcases sgAt_cases l with ⟨h1, _⟩ | ⟨h1, _⟩ <;> omega
  have hlen := ldD_len (l.drop (sgAt l))
  have hsl : sgAt l ≤ l.length := by
    rcases sgAt_cases l with ⟨h1, h2⟩ | ⟨h1, _⟩
    · rw [h1]
      cases l with
      | nil => simp at h2
      | cons a r => simp
    · omega
  rw [List.length_drop] at hlen
  have ht := num_take l
  have hd := ldD_all (l.drop (sgAt l))
  unfold numW at h
  generalize ldD (l.drop (sgAt l)) = ds at *
  unfold num2 at h
  split at h
  · simp at h
  · split at h
    · simp at h
    · split at h
      · rename_i h0 h1 h2
        simp only [Prod.mk.injEq] at h
        obtain ⟨rfl, rfl, _⟩ := h
        exact ⟨by rw [ht, dz_num (can_of h0 hd h1) hst h1], h2.1, h2.2, by omega⟩
      · simp at h
theorem num_dz {z : Int} {r : List UInt8} (h1 : -9223372036854775808 ≤ z) (h2 : z < 9223372036854775808) (hr : ∀ c, r[0]? = some c → isD c = false) : numW (dz z ++ r) = (z, (dz z).length, 0) := by
  have hc := dn_can z.natAbs
  obtain ⟨a, t, ha, ha2⟩ := dn_head z.natAbs
  by_cases hz : z < 0
  · have e1 : sgAt (dz z ++ r) = 1 := by rw [dz_neg hz]; simp [sgAt]
    have e2 : ldD ((dz z ++ r).drop 1) = dn z.natAbs := by rw [dz_neg hz]; exact ldD_app (dn_all _) hr
    unfold numW
    rw [e1, e2]
    unfold num2
    have h3 : (dn z.natAbs)[0]? ≠ some 48 := fun e => by
      have h4 := hc.2.2 e
      have h5 := dv_dn z.natAbs
      rw [ha] at e h4 h5
      simp at e h4; subst e h4
      simp [dv] at h5; omega
    have h4 : numZ 1 (dn z.natAbs) = z := by unfold numZ; rw [if_pos rfl, dv_dn]; omega
    rw [if_neg hc.1, if_neg (fun h => h3 h.1), h4, if_pos ⟨h1, h2⟩, dz_neg hz]
    simp; omega
  · have e1 : sgAt (dz z ++ r) = 0 := by
      rw [dz_pos (by omega), ha]
      unfold sgAt
      rw [if_neg]
      simp
      intro e; subst e; simp [isD] at ha2
    have e2 : ldD ((dz z ++ r).drop 0) = dn z.natAbs := by rw [dz_pos (by omega)]; exact ldD_app (dn_all _) hr
    unfold numW
    rw [e1, e2]
    unfold num2
    have h3 : ¬ ((dn z.natAbs)[0]? = some 48 ∧ (0 = 1 ∨ 1 < (dn z.natAbs).length)) := fun ⟨e, h4⟩ => by
      have := hc.2.2 e
      omega
    have h4 : numZ 0 (dn z.natAbs) = z := by unfold numZ; rw [if_neg (by omega), dv_dn]; omega
    rw [if_neg hc.1, if_neg h3, h4, if_pos ⟨h1, h2⟩, dz_pos (by omega)]
    simp
theorem num_err {l : List UInt8} {z : Int} {k e : Nat} (h : numW l = (z, k, e)) (he : e ≠ 0) : z = 0 ∧ k = 0 := by
  unfold numW num2 at h
  repeat' split at h
  all_goals
    simp only [Prod.mk.injEq] at h
    obtain ⟨rfl, rfl, rfl⟩ := h
    first | exact ⟨rfl, rfl⟩ | exact absurd rfl he
end Go.Proofs.YtbbdmphclnnejaaDoor
