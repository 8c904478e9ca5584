/-
  What is put is got, and what is read has just the bytes that it was read of, plainly. It speaks of no program.
-/
import Derived.Test.YtnjcpfbkcaeodaaAllMath
import Derived.Test.YtnjcpfbkcaeodaaFixMath
namespace Go.Proofs.Ytnjcpfbkcaeodaa
open Go.RowKit

theorem lastOk_iff (m c : Nat) : lastOk m c = true ↔ ¬ (0 < m ∧ c = 0) ∧ ¬ (m = 9 ∧ 1 < c) := by
  unfold lastOk
  simp
  omega
/-- the bytes l are digits: all but the last are followed by others, the last is not nought unless it is alone -/
def Digits (pre : List UInt8) (c : UInt8) : Prop := (∀ d ∈ pre, 128 ≤ d.toNat) ∧ c.toNat < 128 ∧ (pre ≠ [] → c.toNat ≠ 0)

theorem digs_varint (f : Nat) : ∀ n : Nat, n ≤ f → ∃ pre c, varint n = pre ++ [c] ∧ Digits pre c ∧ digs (varint n) = n ∧ (n ≠ 0 → c.toNat ≠ 0) := by
  induction f with
  | zero =>
    intro n h
    obtain rfl : n = 0 := by omega
    exact ⟨[], 0, by rw [varint_small 0 (by omega)]; rfl, ⟨by simp, by decide, by simp⟩, by rw [varint_small 0 (by omega)]; rfl, by simp⟩
  | succ f ih =>
    intro n h
    by_cases hn : n < 128
    · refine ⟨[], UInt8.ofNat n, by rw [varint_small n hn]; rfl, ⟨by simp, ?_, by simp⟩, ?_, ?_⟩
      · rw [UInt8.toNat_ofNat']; omega
      · rw [varint_small n hn]; simp only [digs, UInt8.toNat_ofNat']; omega
      · rw [UInt8.toNat_ofNat']; omega
    · obtain ⟨pre, c, h1, ⟨h2, h3, h4⟩, h5, h6⟩ := ih (n / 128) (by omega)
      refine ⟨hi n :: pre, c, by rw [varint_step n (by omega), h1]; rfl, ⟨?_, h3, fun _ => h6 (by omega)⟩, ?_, fun _ => h6 (by omega)⟩
      · intro d hd
        rcases List.mem_cons.1 hd with rfl | hd
        · rw [hi_nat]; omega
        · exact h2 d hd
      · rw [varint_step n (by omega), digs, h5, hi_nat]; omega

theorem digs_pos (pre : List UInt8) (c : UInt8) (hc : c.toNat < 128) (h : c.toNat ≠ 0) : 0 < digs (pre ++ [c]) := by
  rw [digs_snoc]
  have : 0 < c.toNat % 128 * 128 ^ pre.length := Nat.mul_pos (by omega) (Nat.pow_pos (by omega))
  omega
theorem varint_digs (c : UInt8) : ∀ pre : List UInt8, Digits pre c → varint (digs (pre ++ [c])) = pre ++ [c]
  | [], ⟨_, h2, _⟩ => by
    rw [List.nil_append, digs, digs, varint_small _ (by omega)]
    congr 1
    apply UInt8.toNat_inj.1
    rw [UInt8.toNat_ofNat']; omega
  | d :: pre, ⟨h1, h2, h3⟩ => by
    have hc := h3 (by simp)
    have hp := digs_pos pre c h2 hc
    have hd := h1 d (by simp)
    have hd2 := d.toNat_lt
    have ih := varint_digs c pre ⟨fun x hx => h1 x (by simp [hx]), h2, fun _ => hc⟩
    rw [List.cons_append, digs]
    generalize digs (pre ++ [c]) = q at *
    rw [varint_step _ (by omega), show (d.toNat % 128 + 128 * q) / 128 = q by omega, ih]
    congr 1
    apply UInt8.toNat_inj.1
    rw [hi_nat]; omega

/-- what is put is read, whatever stands behind -/
theorem long_varint (n : Nat) (t : List UInt8) (hn : n < 18446744073709551616) : long (varint n ++ t) = (n, (varint n).length, 0) := by
  obtain ⟨pre, c, h1, ⟨h2, h3, h4⟩, h5, _⟩ := digs_varint n n (Nat.le_refl _)
  have hl := varint_ten n hn
  rw [h1, List.length_append, List.length_singleton] at hl
  have hat : (varint n ++ t)[pre.length]? = some c := by
    rw [h1, List.append_assoc, List.getElem?_append_right (Nat.le_refl _), Nat.sub_self]; rfl
  have e := long_at hat (by omega) (fun j d hj hd => by
    rw [h1, List.append_assoc, List.getElem?_append_left hj] at hd
    exact h2 d (List.mem_of_getElem? hd)) h3
  have hdig : digs ((varint n ++ t).take (pre.length + 1)) = n := by
    rw [h1, List.take_append_of_le_length (by simp), List.take_of_length_le (by simp), ← h1]; exact h5
  rw [digs_at hat] at hdig
  have h0 : 0 < pre.length → c.toNat ≠ 0 := fun h => h4 (List.length_pos_iff.1 h)
  have h9 : pre.length = 9 → c.toNat ≤ 1 := fun h9 => by
    rw [h9] at hdig
    have : c.toNat % 128 * 128 ^ 9 < 18446744073709551616 := by omega
    simp only [Nat.reducePow] at this
    omega
  have hok : lastOk pre.length c.toNat = true := (lastOk_iff _ _).2 ⟨fun h => h0 h.1 h.2, fun h => by have := h9 h.1; omega⟩
  rw [if_pos hok, hdig] at e
  rw [e, h1, List.length_append, List.length_singleton]

/-- whatever is read has just the bytes that it was read of -/
theorem varint_long (l : List UInt8) (h : (long l).2.2 = 0) : varint (long l).1 = l.take (long l).2.1 := by
  unfold long at h ⊢
  by_cases h1 : lead l < l.length ∧ lead l < 10
  · rw [if_pos h1] at h ⊢
    by_cases h2 : lastOk (lead l) (l.getD (lead l) 0).toNat = true
    · rw [if_pos h2] at h ⊢
      show varint (digs (l.take (lead l + 1))) = l.take (lead l + 1)
      have e : l.take (lead l + 1) = l.take (lead l) ++ [l[lead l]] := List.take_succ_eq_append_getElem h1.1
      rw [e]
      refine varint_digs _ _ ⟨?_, ?_, ?_⟩
      · have key : ∀ m : List UInt8, ∀ d ∈ m.take (lead m), 128 ≤ d.toNat := by
          intro m
          induction m with
          | nil => simp
          | cons a r ih =>
            intro d hd
            unfold lead at hd
            split at hd
            · simp at hd
            · rw [List.take_succ_cons] at hd
              rcases List.mem_cons.1 hd with rfl | hd
              · omega
              · exact ih d hd
        exact key l
      · have key : ∀ m : List UInt8, (hm : lead m < m.length) → m[lead m].toNat < 128 := by
          intro m
          induction m with
          | nil => intro hm; simp at hm
          | cons a r ih =>
            intro hm
            by_cases ha : a.toNat < 128
            · have : lead (a :: r) = 0 := by simp [lead, ha]
              simp [this, ha]
            · have hle : lead (a :: r) = lead r + 1 := by simp [lead, ha]
              have hm2 : lead r < r.length := by rw [hle] at hm; simpa using hm
              have := ih hm2
              simp only [hle, List.getElem_cons_succ]
              exact this
        exact key l h1.1
      · intro hne
        have : 0 < lead l := by
          rcases Nat.eq_zero_or_pos (lead l) with h0 | h0
          · rw [h0] at hne; simp at hne
          · exact h0
        rw [List.getD_eq_getElem?_getD, List.getElem?_eq_getElem h1.1, Option.getD_some] at h2
        unfold lastOk at h2
        simp at h2
        omega
    · rw [if_neg h2] at h; simp at h
  · rw [if_neg h1] at h; split at h <;> simp at h

theorem shorts_all (f : Nat) : ∀ l : List UInt8, l.length ≤ f → (all l).2 = 0 → shorts (all l).1 = l := by
  induction f with
  | zero => intro l h _; obtain rfl : l = [] := List.eq_nil_of_length_eq_zero (by omega)
            rfl
  | succ f ih =>
    intro l hf h
    by_cases hl : l = []
    · subst hl; rfl
    · by_cases he : (long l).2.2 = 0
      · have hp := long_pos l he
        have hs := all_step l hl he
        by_cases h2 : (all (l.drop (long l).2.1)).2 = 0
        · rw [if_neg (by simp [h2])] at hs
          rw [hs]
          show varint _ ++ shorts _ = l
          rw [ih (l.drop (long l).2.1) (by simp; omega) h2, varint_long l he, List.take_append_drop]
        · rw [if_pos h2] at hs
          rw [hs] at h; exact absurd h h2
      · rw [all_err l hl he] at h; exact absurd h he

theorem get_le (k n : Nat) (h : n < 256 ^ k) : get (le k n) k = (n, 0) := by
  unfold get
  rw [le_length, if_neg (by omega), if_neg (by omega), unle_le k n h]
end Go.Proofs.Ytnjcpfbkcaeodaa
