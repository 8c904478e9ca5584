/-
  The text of a value, and the value that a string begins with, plainly.
-/
import Derived.Test.YtgoefndbpfhhaaaDoorValRightC
import Derived.Test.YtgoefndbpfhhaaaDoorValHexMath
import Derived.Test.YtgoefndbpfhhaaaDoorValMath
namespace Go.Proofs.YtgoefndbpfhhaaaDoor
open Go.RowKit

def nullT : List UInt8 := [110, 117, 108, 108]
/-- the text of a value -/
def prW (k n : Int) (l : List UInt8) : List UInt8 := if k = 1 then dz n else if k = 2 then dz n ++ [108] else if k = 3 then qt l else if k = 4 then 120 :: 34 :: (hxs l ++ [34]) else nullT
abbrev Val := Int × Int × List UInt8
/-- a value, its length and the error -/
def resW (v : Val) (n e : Nat) : Val × Nat × Nat := if e = 0 then (v, n, 0) else ((0, 0, []), 0, e)
def numR2 (l : List UInt8) (z : Int) (k e : Nat) : Val × Nat × Nat := if e = 0 then (if l[k]? = some 108 then ((2, z, []), k + 1, 0) else resW (1, z, []) k (inE z)) else ((0, 0, []), 0, e)
def numR (l : List UInt8) : Val × Nat × Nat := numR2 l (numW l).1 (numW l).2.1 (numW l).2.2
noncomputable def txtR (l : List UInt8) : Val × Nat × Nat := if (uq l).2.2 = true then resW (3, 0, (uq l).1) (uq l).2.1 (txE (uq l).1) else ((0, 0, []), 0, 5)
noncomputable def bytR (l : List UInt8) : Val × Nat × Nat := if (uh (l.drop 2)).2.2 = true then resW (4, 0, (uh (l.drop 2)).1) ((uh (l.drop 2)).2.1 + 3) (byE (uh (l.drop 2)).1) else ((0, 0, []), 0, 5)
/-- does the string begin as a number does? -/
def numB (l : List UInt8) : Bool := match l with
  | [] => false
  | c :: _ => decide (c = 45) || isD c
noncomputable def readW (l : List UInt8) : Val × Nat × Nat :=
  if l.take (rdN l) = nullT then ((0, 0, []), 4, 0) else if numB l = true then numR l else if l[0]? = some 34 then txtR l else if l.take 2 = [120, 34] then bytR l else ((0, 0, []), 0, 5)
def parseW2 (l : List UInt8) (v : Val) (k e : Nat) : Val × Nat := if e = 0 then (if k < l.length then ((0, 0, []), 6) else (v, 0)) else ((0, 0, []), e)
noncomputable def parseW (l : List UInt8) : Val × Nat := parseW2 l (readW l).1 (readW l).2.1 (readW l).2.2

theorem rdN_no {l : List UInt8} {c : UInt8} (h : l[0]? = some c) (hc : isL c = false) : l.take (rdN l) ≠ nullT := by
  rw [rdN_cons h, hc]; simp [nullT]
theorem isL_D {c : UInt8} (h : isD c = true) : isL c = false := by
  rw [isD_iff] at h
  unfold isL
  have : decide (97 ≤ c.toNat) = false := by simp; omega
  rw [this]; rfl
theorem x_no {l : List UInt8} (h : l.take 2 = [120, 34]) : l.take (rdN l) ≠ nullT ∧ numB l = false ∧ l[0]? ≠ some 34 := by
  obtain ⟨r, rfl⟩ : ∃ r, l = 120 :: 34 :: r := by
    match l, h with
    | [], h => simp at h
    | [a], h => simp at h
    | a :: b :: r, h => simp at h; exact ⟨r, by rw [h.1, h.2]⟩
  have e : rdN (120 :: 34 :: r) = 1 := by
    show (if isL 120 then runN (120 :: 34 :: r) else 0) = 1
    rw [if_pos (by decide)]
    simp [runN, show isN 120 = true by decide, show isN 34 = false by decide]
  refine ⟨by rw [e]; simp [nullT], rfl, by simp⟩
theorem readW_null {l : List UInt8} (h : l.take (rdN l) = nullT) : readW l = ((0, 0, []), 4, 0) := by unfold readW; rw [if_pos h]
theorem readW_num {l : List UInt8} (h : numB l = true) : readW l = numR l := by
  have hn : l.take (rdN l) ≠ nullT := by
    cases l with
    | nil => simp [numB] at h
    | cons c r =>
      refine rdN_no (c := c) rfl ?_
      simp only [numB, Bool.or_eq_true, decide_eq_true_eq] at h
      rcases h with rfl | h
      · decide
      · exact isL_D h
  unfold readW; rw [if_neg hn, if_pos h]
theorem readW_txt {l : List UInt8} (h : l[0]? = some 34) : readW l = txtR l := by
  have hb : numB l = false := by
    cases l with
    | nil => rfl
    | cons c r => simp at h; subst h; rfl
  unfold readW; rw [if_neg (rdN_no h (by decide)), if_neg (by rw [hb]; simp), if_pos h]
theorem readW_byt {l : List UInt8} (h : l.take 2 = [120, 34]) : readW l = bytR l := by
  obtain ⟨h1, h2, h3⟩ := x_no h
  unfold readW; rw [if_neg h1, if_neg (by rw [h2]; simp), if_neg h3, if_pos h]
theorem readW_bad {l : List UInt8} (h1 : l.take (rdN l) ≠ nullT) (h2 : numB l = false) (h3 : l[0]? ≠ some 34) (h4 : l.take 2 ≠ [120, 34]) : readW l = ((0, 0, []), 0, 5) := by
  unfold readW; rw [if_neg h1, if_neg (by rw [h2]; simp), if_neg h3, if_neg h4]
theorem resW_err {v w : Val} {n k e e' : Nat} (h : resW v n e = (w, k, e')) (he : e' ≠ 0) : w = (0, 0, []) ∧ k = 0 := by
  unfold resW at h
  split at h
  · simp only [Prod.mk.injEq] at h; exact absurd h.2.2.symm he
  · simp only [Prod.mk.injEq] at h; exact ⟨h.1.symm, h.2.1.symm⟩
theorem resW_ok {v w : Val} {n k e : Nat} (h : resW v n e = (w, k, 0)) : w = v ∧ k = n ∧ e = 0 := by
  unfold resW at h
  split at h
  · rename_i he
    simp only [Prod.mk.injEq] at h; exact ⟨h.1.symm, h.2.1.symm, he⟩
  · rename_i he
    simp only [Prod.mk.injEq] at h; exact absurd h.2.2 he
theorem readW_err {l : List UInt8} {v : Val} {k e : Nat} (h : readW l = (v, k, e)) (he : e ≠ 0) : v = (0, 0, []) ∧ k = 0 := by
  unfold readW at h
  split at h
  · simp only [Prod.mk.injEq] at h; exact absurd h.2.2.symm he
  · split at h
    · unfold numR numR2 at h
      split at h
      · split at h
        · simp only [Prod.mk.injEq] at h; exact absurd h.2.2.symm he
        · exact resW_err h he
      · simp only [Prod.mk.injEq] at h; exact ⟨h.1.symm, h.2.1.symm⟩
    · split at h
      · unfold txtR at h
        split at h
        · exact resW_err h he
        · simp only [Prod.mk.injEq] at h; exact ⟨h.1.symm, h.2.1.symm⟩
      · split at h
        · unfold bytR at h
          split at h
          · exact resW_err h he
          · simp only [Prod.mk.injEq] at h; exact ⟨h.1.symm, h.2.1.symm⟩
        · simp only [Prod.mk.injEq] at h; exact ⟨h.1.symm, h.2.1.symm⟩
theorem take_succ_some {l : List UInt8} {k : Nat} {c : UInt8} (h : l[k]? = some c) : l.take (k + 1) = l.take k ++ [c] ∧ k + 1 ≤ l.length := by
  have h1 := (List.getElem?_eq_some_iff.1 h).1
  exact ⟨take_at h, h1⟩
/-- whatever is read is valid, and written just so -/
theorem read_back {l : List UInt8} {k n : Int} {t : List UInt8} {m : Nat} (h : readW l = ((k, n, t), m, 0)) :
    rightV k n t = true ∧ prW k n t = l.take m ∧ m ≤ l.length ∧ -9223372036854775808 ≤ n ∧ n < 9223372036854775808 := by
  unfold readW at h
  split at h
  · rename_i h0
    simp only [Prod.mk.injEq] at h
    obtain ⟨⟨rfl, rfl, rfl⟩, rfl, _⟩ := h
    have hl : rdN l ≤ l.length := rdN_le l
    have h4 : rdN l = 4 := by
      have := congrArg List.length h0
      rw [List.length_take] at this
      simp [nullT] at this; omega
    rw [h4] at h0
    exact ⟨rfl, h0.symm, by omega, by omega, by omega⟩
  · split at h
    · unfold numR numR2 at h
      split at h
      · rename_i he
        obtain ⟨h1, h2, h3, h4⟩ := num_back (l := l) (z := (numW l).1) (k := (numW l).2.1) (by rw [← he])
        split at h
        · rename_i hl
          simp only [Prod.mk.injEq] at h
          obtain ⟨⟨rfl, rfl, rfl⟩, rfl, _⟩ := h
          obtain ⟨h5, h6⟩ := take_succ_some hl
          exact ⟨rfl, by rw [h5, h1]; rfl, h6, h2, h3⟩
        · obtain ⟨e1, rfl, e3⟩ := resW_ok h
          simp only [Prod.mk.injEq] at e1
          obtain ⟨rfl, rfl, rfl⟩ := e1
          refine ⟨?_, by rw [h1]; rfl, h4, h2, h3⟩
          unfold inE at e3
          split at e3
          · rename_i hf
            show (fitsB _ 32 && decide (([] : List UInt8) = [])) = true
            rw [hf]; rfl
          · cases e3
      · rename_i he
        simp only [Prod.mk.injEq] at h
        exact absurd h.2.2 he
    · split at h
      · unfold txtR at h
        split at h
        · rename_i hu
          obtain ⟨h1, h2⟩ := uq_back (l := l) (t := (uq l).1) (n := (uq l).2.1) (by rw [← hu])
          obtain ⟨e1, rfl, e3⟩ := resW_ok h
          simp only [Prod.mk.injEq] at e1
          obtain ⟨rfl, rfl, rfl⟩ := e1
          refine ⟨?_, h2, h1, by omega, by omega⟩
          have h3 := txE_zero (uq l).1
          rw [e3] at h3
          show (decide ((0 : Int) = 0) && decide ((uq l).1.length ≤ 120) && (sg (uq l).1).isSome) = true
          rw [Bool.and_assoc, ← h3]; rfl
        · simp at h
      · split at h
        · rename_i hx
          unfold bytR at h
          split at h
          · rename_i hu
            obtain ⟨e1, rfl, e3⟩ := resW_ok h
            simp only [Prod.mk.injEq] at e1
            obtain ⟨rfl, rfl, rfl⟩ := e1
            rcases uh_cases (l.drop 2) with ⟨t, r, h1, h2⟩ | h2
            · rw [h2] at e3 ⊢
              have hl : l = 120 :: 34 :: (hxs t ++ 34 :: r) := by
                have := (List.take_append_drop 2 l).symm
                rw [hx, h1] at this; exact this
              refine ⟨?_, ?_, ?_, by omega, by omega⟩
              · have h3 := byE_zero t
                rw [e3] at h3
                show (decide ((0 : Int) = 0) && decide (t.length ≤ 120)) = true
                rw [← h3]; rfl
              · show 120 :: 34 :: (hxs t ++ [34]) = _
                rw [hl]
                show _ = (120 :: 34 :: (hxs t ++ 34 :: r)).take ((hxs t).length + 1 + 1 + 1)
                rw [List.take_succ_cons, List.take_succ_cons, show hxs t ++ 34 :: r = (hxs t ++ [34]) ++ r by simp, List.take_append_of_le_length (by simp), List.take_of_length_le (by simp)]
              · rw [hl]; simp
            · rw [h2] at hu; cases hu
          · simp at h
        · simp at h
theorem parse_back {l : List UInt8} {k n : Int} {t : List UInt8} (h : parseW l = ((k, n, t), 0)) : rightV k n t = true ∧ prW k n t = l ∧ -9223372036854775808 ≤ n ∧ n < 9223372036854775808 := by
  unfold parseW parseW2 at h
  split at h
  · rename_i he
    split at h
    · simp at h
    · rename_i hk
      simp only [Prod.mk.injEq] at h
      obtain ⟨h1, h2, h3, h4, h5⟩ := read_back (l := l) (k := k) (n := n) (t := t) (m := (readW l).2.1) (by rw [← h.1, ← he])
      exact ⟨h1, by rw [h2, List.take_of_length_le (by omega)], h4, h5⟩
  · rename_i he
    simp only [Prod.mk.injEq] at h
    exact absurd h.2 he
theorem parse_err {l : List UInt8} {v : Val} {e : Nat} (h : parseW l = (v, e)) (he : e ≠ 0) : v = (0, 0, []) := by
  unfold parseW parseW2 at h
  split at h
  · split at h
    · simp only [Prod.mk.injEq] at h; exact h.1.symm
    · simp only [Prod.mk.injEq] at h; exact absurd h.2.symm he
  · simp only [Prod.mk.injEq] at h; exact h.1.symm
/-- nothing follows, or a blank -/
def Blank (r : List UInt8) : Prop := r = [] ∨ r[0]? = some 32
theorem Blank.ne {r : List UInt8} (h : Blank r) {c : UInt8} (hc : c ≠ 32) : r[0]? ≠ some c := by
  rcases h with rfl | h
  · simp
  · rw [h]; intro e; exact hc (Option.some.inj e).symm
theorem Blank.noD {r : List UInt8} (h : Blank r) : ∀ c, r[0]? = some c → isD c = false := fun c hc => by
  rcases h with rfl | h
  · simp at hc
  · rw [h] at hc; cases hc; decide
theorem runN_stop : ∀ (l : List UInt8) {r : List UInt8}, (∀ x ∈ l, isN x = true) → Blank r → runN (l ++ r) = l.length
  | [], r, _, hr => by
    rcases hr with rfl | hr
    · rfl
    · cases r with
      | nil => rfl
      | cons c r => simp at hr; subst hr; simp [runN, show isN 32 = false by decide]
  | a :: l, r, h, hr => by
    have ha : isN a = true := h a (by simp)
    simp only [List.cons_append, runN, ha, if_true, List.length_cons]
    rw [runN_stop l (fun x hx => h x (by simp [hx])) hr]
/-- what is written is read, with nothing or a blank behind it -/
theorem print_read {k n : Int} {t : List UInt8} (hr : rightV k n t = true) (h1 : -9223372036854775808 ≤ n) (h2 : n < 9223372036854775808) {r : List UInt8} (hb : Blank r) :
    readW (prW k n t ++ r) = ((k, n, t), (prW k n t).length, 0) := by
  have hnum : numB (dz n ++ r) = true := by
    obtain ⟨c, q, hc, hc2⟩ := dn_head n.natAbs
    by_cases hn : n < 0
    · rw [dz_neg hn]; rfl
    · rw [dz_pos (by omega), hc]
      simp [numB, hc2]
  rcases rightV_cases k n t with ⟨rfl, hv⟩ | ⟨rfl, hv⟩ | ⟨rfl, hv⟩ | ⟨rfl, hv⟩ | ⟨rfl, hv⟩ | ⟨_, _, _, _, _, hv⟩
  · rw [hr] at hv
    simp only [Bool.true_eq, Bool.and_eq_true, decide_eq_true_eq] at hv
    obtain ⟨rfl, rfl⟩ := hv
    show readW (nullT ++ r) = _
    have e : rdN (nullT ++ r) = 4 := by
      have h := runN_stop nullT (by decide) hb
      show (if isL 110 then runN (nullT ++ r) else 0) = 4
      rw [if_pos (by decide), h]; rfl
    exact readW_null (by rw [e]; rfl)
  · rw [hr] at hv
    simp only [Bool.true_eq, Bool.and_eq_true, decide_eq_true_eq] at hv
    obtain ⟨hf, rfl⟩ := hv
    show readW (dz n ++ r) = ((1, n, []), (dz n).length, 0)
    rw [readW_num hnum]
    unfold numR
    rw [num_dz h1 h2 hb.noD]
    show numR2 _ n _ 0 = _
    unfold numR2
    rw [if_pos rfl, if_neg (by rw [List.getElem?_append_right (Nat.le_refl _), Nat.sub_self]; exact hb.ne (by decide))]
    unfold resW inE
    rw [hf]; rfl
  · rw [hr] at hv
    simp only [Bool.true_eq, decide_eq_true_eq] at hv
    subst hv
    show readW (dz n ++ [108] ++ r) = ((2, n, []), (dz n ++ [108]).length, 0)
    have hnum2 : numB (dz n ++ ([108] ++ r)) = true := by
      obtain ⟨c, q, hc, hc2⟩ := dn_head n.natAbs
      by_cases hn : n < 0
      · rw [dz_neg hn]; rfl
      · rw [dz_pos (by omega), hc]
        simp [numB, hc2]
    rw [List.append_assoc, readW_num hnum2]
    unfold numR
    rw [num_dz h1 h2 (fun c hc => by simp at hc; subst hc; decide)]
    show numR2 _ n _ 0 = _
    unfold numR2
    rw [if_pos rfl, if_pos (by rw [List.getElem?_append_right (Nat.le_refl _), Nat.sub_self]; rfl)]
    simp
  · rw [hr, Bool.and_assoc] at hv
    have hv2 := Bool.and_eq_true_iff.1 hv.symm
    obtain ⟨hn, ht⟩ := hv2
    have hn0 : n = 0 := of_decide_eq_true hn
    subst hn0
    show readW (qt t ++ r) = ((3, 0, t), (qt t).length, 0)
    rw [readW_txt rfl]
    unfold txtR
    rw [uq_yes (t := t) (r := r) rfl]
    rw [← txE_zero] at ht
    have ht0 : txE t = 0 := by simpa using ht
    show (if true = true then resW (3, 0, t) (qt t).length (txE t) else _) = _
    rw [if_pos rfl, ht0]; rfl
  · rw [hr] at hv
    have hv2 := Bool.and_eq_true_iff.1 hv.symm
    obtain ⟨hn, ht⟩ := hv2
    have hn0 : n = 0 := of_decide_eq_true hn
    subst hn0
    show readW (120 :: 34 :: (hxs t ++ [34]) ++ r) = ((4, 0, t), (120 :: 34 :: (hxs t ++ [34])).length, 0)
    rw [readW_byt rfl]
    unfold bytR
    have e : (120 :: 34 :: (hxs t ++ [34]) ++ r).drop 2 = hxs t ++ 34 :: r := by simp
    rw [e, uh_yes (t := t) (r := r) rfl]
    rw [← byE_zero] at ht
    have ht0 : byE t = 0 := by simpa using ht
    show (if true = true then resW (4, 0, t) ((hxs t).length + 3) (byE t) else _) = _
    rw [if_pos rfl, ht0]
    unfold resW
    rw [if_pos rfl]; simp
  · rw [hr] at hv; cases hv
theorem print_parse {k n : Int} {t : List UInt8} (hr : rightV k n t = true) (h1 : -9223372036854775808 ≤ n) (h2 : n < 9223372036854775808) : parseW (prW k n t) = ((k, n, t), 0) := by
  have h := print_read hr h1 h2 (r := []) (.inl rfl)
  rw [List.append_nil] at h
  unfold parseW
  rw [h]
  show parseW2 (prW k n t) (k, n, t) (prW k n t).length 0 = _
  unfold parseW2
  rw [if_pos rfl, if_neg (by omega)]
end Go.Proofs.YtgoefndbpfhhaaaDoor
