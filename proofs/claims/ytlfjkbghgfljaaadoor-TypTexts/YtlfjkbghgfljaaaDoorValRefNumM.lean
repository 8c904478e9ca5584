/-
  Ahead of the contract of the document's own Number: its mathematics.
-/
import Derived.Test.YtlfjkbghgfljaaaDoorValNumberC
import Derived.Test.YtlfjkbghgfljaaaDoorValRefDigC
import Derived.Test.YtlfjkbghgfljaaaDoorNameOrdC
import Derived.Test.YtlfjkbghgfljaaaDoorUtfLivesC
namespace Go.Proofs.YtlfjkbghgfljaaaDoor
open Go.RowKit

/-- the digits from place st to place k -/
def mid (l : List UInt8) (st k : Nat) : List UInt8 := (l.drop st).take (k - st)
theorem mid_len {l : List UInt8} {st k : Nat} (h : k ≤ l.length) : (mid l st k).length = k - st := by simp [mid]; omega
theorem mid_more {l : List UInt8} {st k : Nat} {c : UInt8} (hk : st ≤ k) (h : l[k]? = some c) : mid l st (k + 1) = mid l st k ++ [c] := by
  unfold mid
  rw [show k + 1 - st = (k - st) + 1 by omega, take_at (c := c)]
  rw [List.getElem?_drop, show st + (k - st) = k by omega]; exact h
theorem mid_stop {l : List UInt8} {st k : Nat} (hk : st ≤ k) (hkl : k ≤ l.length) (hd : AllD (mid l st k)) (h : ∀ c, l[k]? = some c → isD c = false) : ldD (l.drop st) = mid l st k :=
  ldD_stop hd (fun c hc => h c (by rw [List.getElem?_drop, show st + (k - st) = k by omega] at hc; exact hc)) (by simp; omega)
theorem mid_at {l : List UInt8} {st k : Nat} (h : st < k) : (mid l st k)[0]? = l[st]? := by
  unfold mid
  rw [List.getElem?_take_of_lt (by omega), List.getElem?_drop, Nat.add_zero]
theorem AllD.more {l : List UInt8} {c : UInt8} (h : AllD l) (hc : isD c = true) : AllD (l ++ [c]) := by
  intro x hx
  rcases List.mem_append.1 hx with hx | hx
  · exact h x hx
  · simp at hx; subst hx; exact hc
theorem isD_no {c : UInt8} (h : isD c = false) : c.toNat < 48 ∨ 57 < c.toNat := by
  by_cases h1 : 48 ≤ c.toNat ∧ c.toNat ≤ 57
  · rw [(isD_iff c).2 h1] at h; cases h
  · omega
theorem mid_text {l : List UInt8} {st k : Nat} (hst : st = 0 ∨ st = 1) (h1 : sgAt l = st) (h2 : ldD (l.drop st) = mid l st k) (hk : st ≤ k) (hkl : k ≤ l.length) (hn : mid l st k ≠ [])
    (h0 : ¬ ((mid l st k)[0]? = some 48 ∧ (st = 1 ∨ 1 < (mid l st k).length))) : dz (numZ st (mid l st k)) = l.take k := by
  have ht := num_take l
  rw [h1, h2, mid_len hkl, show st + (k - st) = k by omega] at ht
  rw [ht, dz_num (can_of hn (by rw [← h2]; exact ldD_all _) h0) hst h0]
theorem numZ_zero (ds : List UInt8) : numZ 0 ds = (dv ds : Int) := if_neg (by omega)
theorem numZ_one (ds : List UInt8) : numZ 1 ds = -(dv ds : Int) := if_pos rfl
/-- no zero ahead of other digits, and none behind a sign -/
def NoZ (st : Nat) (ds : List UInt8) : Prop := ¬ (ds[0]? = some 48 ∧ (st = 1 ∨ 1 < ds.length))
theorem wrap64_in (z : Int) : -9223372036854775808 ≤ wrap64 z ∧ wrap64 z < 9223372036854775808 := by go_arith
theorem wrap64_id {z : Int} (h : fits64 z = true) : wrap64 z = z := by
  rw [fits64_iff] at h; go_arith
theorem wrap64_ne {z : Int} (h : fits64 z = false) : wrap64 z ≠ z := fun e => by
  have := wrap64_in z
  rw [e, ← fits64_iff, h] at this; cases this
theorem step64 (q d : Int) : wrap64 (wrap64 (10 * wrap64 (-q)) - d) = wrap64 (-(10 * q + d)) := by go_arith
theorem neg64 (q : Int) : wrap64 (-wrap64 (-q)) = wrap64 q := by go_arith

theorem mid_dig {l : List UInt8} {st k j : Nat} {c : UInt8} (h : AllD (mid l st k)) (h1 : st ≤ j) (h2 : j < k) (hc : l[j]? = some c) : isD c = true := by
  refine h c (List.mem_of_getElem? (i := j - st) ?_)
  unfold mid
  rw [List.getElem?_take_of_lt (by omega), List.getElem?_drop, show st + (j - st) = j by omega]; exact hc
theorem mid_ne {l : List UInt8} {st k : Nat} (h : k ≤ l.length) (hk : st < k) : mid l st k ≠ [] := fun e => by
  have := mid_len (st := st) h
  rw [e] at this; simp at this; omega
theorem mid_nil (l : List UInt8) (st : Nat) : mid l st st = [] := by simp [mid]
theorem some48 {l : List UInt8} {k : Nat} {c : UInt8} (h : l[k]? = some c) (hc : c.toNat = 48) : l[k]? = some 48 := by rw [h, u8_is (by omega) hc]; rfl
theorem no48 {l : List UInt8} {k : Nat} {c : UInt8} (h : l[k]? = some c) (hc : c.toNat ≠ 48) : l[k]? ≠ some 48 := fun e => hc (by rw [h] at e; rw [Option.some.inj e]; rfl)
end Go.Proofs.YtlfjkbghgfljaaaDoor
