/-
  Texts that the proof needs, one behind the other: DtxPrM, DtxPBC.
-/
import Derived.Lib.Strings
import Derived.Lib.Builder
import Derived.Lib.AppendStr
import Derived.Lib.UnsafeStr
import Derived.Laws.Externs
import Derived.Test.YtebldfnocpcddaaGreatDoorPart14
import Derived.Test.YtebldfnocpcddaaGreatDoorPart1
import Derived.Test.YtebldfnocpcddaaGreatDoorPart17

/-
  The text of a change (layer 10): the program's printer in plain words, against the text; the word null against values.
-/
namespace Go.Proofs.YtebldfnocpcddaaGreatDoor

/-- what was written, the gap ahead of the next thing, is something wrong? -/
structure Pst where
  l : List UInt8
  g : List UInt8
  wr : Bool
def putP (st : Pst) (t : List UInt8) (ok : Bool) : Pst := if ok = true then ⟨st.l ++ (st.g ++ t), [32], st.wr⟩ else ⟨st.l, st.g, true⟩
def rawP (st : Pst) (t : List UInt8) : Pst := ⟨st.l ++ t, st.g, st.wr⟩
def nullP (st : Pst) (nl : Bool) : Pst := if nl = true then putP st nullT true else st
def defP (st : Pst) (k n : Int) (s : ByteArray) : Pst := if nulV k n s = true then st else putP (putP st defT true) (prW k n (bs s)) (rightV k n (bs s))
def nmP (st : Pst) (s : ByteArray) : Pst := putP st (bs s) (rightN (bs s))
def kindP (st : Pst) (k m : Int) : Pst := putP st (prT k m) (rightT k m)
def valP (st : Pst) (k n : Int) (s : ByteArray) : Pst := putP st (prW k n (bs s)) (rightV k n (bs s))
def clP (st : Pst) (c : Cb) : Pst := defP (nullP (kindP (nmP st c.nm) c.tk c.tm) c.nl) c.dk c.dn c.ds
/-- ahead of a column: a comma, but for the first one -/
def comP (st : Pst) (first : Bool) : Pst := if first = true then st else rawP st [44]
def colsG : Pst → Bool → List Cb → Pst
  | st, _, [] => st
  | st, f, c :: r => colsG (clP (comP st f) c) false r
def colsP (st : Pst) (l : List Cb) : Pst := if 1 ≤ l.length ∧ l.length ≤ 10 then rawP (colsG ⟨(putP st [40] true).l, [], st.wr⟩ true l) [41] else ⟨st.l, st.g, true⟩
/-- what stands behind the table's name -/
def rsP (st : Pst) (d : Dp) : Pst :=
  if d.op = 1 then nmP (putP (colsP st d.cols) keyT true) d.key
  else if d.op = 2 then st
  else if d.op = 3 then nmP (putP st toT true) d.to
  else if d.op = 4 then clP st ⟨0, d.co, d.tk, d.tm, d.nl, d.dk, d.dn, d.ds⟩
  else if d.op = 5 then nmP st d.co
  else if d.op = 6 then nmP (putP (nmP st d.co) toT true) d.to
  else if d.op = 7 then kindP (nmP st d.co) d.tk d.tm
  else valP (nmP st d.co) d.dk d.dn d.ds
def chgP (d : Dp) : Pst := rsP (nmP (putP ⟨[], [], false⟩ (opT d.op.toNat) true) d.tb) d

/-! ### Is it wrong? -/
theorem putP_wr (st : Pst) (t : List UInt8) (ok : Bool) : (putP st t ok).wr = (st.wr || !ok) := by
  cases ok
  · show true = _; simp
  · show st.wr = _; simp
theorem nullP_wr (st : Pst) (nl : Bool) : (nullP st nl).wr = st.wr := by
  cases nl
  · rfl
  · show (putP st nullT true).wr = _
    rw [putP_wr]; simp
theorem nul_right {k n : Int} {s : ByteArray} (h : nulV k n s = true) : rightV k n (bs s) = true ∧ k = 0 := by
  obtain ⟨rfl, rfl, rfl⟩ := nulV_iff.1 h
  exact ⟨by decide, rfl⟩
theorem nul_of {n : Int} {s : ByteArray} (h : rightV 0 n (bs s) = true) : nulV 0 n s = true := by
  have e : rightV 0 n (bs s) = (decide (n = 0) && decide (bs s = [])) := rfl
  rw [e] at h
  simp only [Bool.and_eq_true, decide_eq_true_eq] at h
  refine nulV_iff.2 ⟨rfl, h.1, ?_⟩
  rw [← strB_bs s, h.2]
theorem defP_wr (st : Pst) (k n : Int) (s : ByteArray) : (defP st k n s).wr = (st.wr || !rightV k n (bs s)) := by
  unfold defP
  cases h : nulV k n s with
  | true =>
    rw [if_pos rfl, (nul_right h).1]; simp
  | false =>
    rw [if_neg (by decide), putP_wr, putP_wr]
    simp
theorem clP_wr (st : Pst) (c : Cb) : (clP st c).wr = (st.wr || !colOk c) := by
  unfold clP
  rw [defP_wr, nullP_wr]
  unfold kindP nmP colOk
  rw [putP_wr, putP_wr]
  cases st.wr <;> cases rightN (bs c.nm) <;> cases rightT c.tk c.tm <;> cases rightV c.dk c.dn (bs c.ds) <;> rfl
theorem comP_wr (st : Pst) (f : Bool) : (comP st f).wr = st.wr := by cases f <;> rfl
theorem colsG_wr : ∀ (l : List Cb) (st : Pst) (f : Bool), (colsG st f l).wr = (st.wr || !l.all colOk)
  | [], st, f => by show st.wr = _; simp
  | c :: r, st, f => by
    show (colsG (clP (comP st f) c) false r).wr = _
    rw [colsG_wr r, clP_wr, comP_wr, List.all_cons]
    cases st.wr <;> cases colOk c <;> simp
theorem colsP_wr (st : Pst) (l : List Cb) : (colsP st l).wr = (st.wr || !(l.all colOk && (decide (1 ≤ l.length) && decide (l.length ≤ 10)))) := by
  unfold colsP
  by_cases h : 1 ≤ l.length ∧ l.length ≤ 10
  · rw [if_pos h]
    show (colsG _ true l).wr = _
    rw [colsG_wr]
    simp [h]
  · rw [if_neg h]
    have e : (decide (1 ≤ l.length) && decide (l.length ≤ 10)) = false := by
      cases hh : (decide (1 ≤ l.length) && decide (l.length ≤ 10)) with
      | false => rfl
      | true => exact absurd (by simpa using hh) h
    rw [e]; simp
theorem rsP_wr (st : Pst) (d : Dp) (hp : plainD d = true) (h1 : st.wr = !rightN (bs d.tb)) : (rsP st d).wr = !canD d := by
  have hop := plainD_op hp
  unfold rsP canD
  rw [hp]
  rcases (show d.op = 1 ∨ d.op = 2 ∨ d.op = 3 ∨ d.op = 4 ∨ d.op = 5 ∨ d.op = 6 ∨ d.op = 7 ∨ d.op = 8 by omega) with e | e | e | e | e | e | e | e
  · simp only [e, Int.reduceEq, if_true, if_false]
    unfold nmP
    rw [putP_wr, putP_wr, colsP_wr, h1]
    cases rightN (bs d.tb) <;> cases rightN (bs d.key) <;> cases (d.cols.all colOk) <;> simp
  · simp only [e, Int.reduceEq, if_true, if_false]
    rw [h1]; cases rightN (bs d.tb) <;> rfl
  · simp only [e, Int.reduceEq, if_true, if_false]
    unfold nmP
    rw [putP_wr, putP_wr, h1]
    cases rightN (bs d.tb) <;> cases rightN (bs d.to) <;> rfl
  · simp only [e, Int.reduceEq, if_true, if_false]
    rw [clP_wr, h1]
    unfold colOk
    cases rightN (bs d.tb) <;> cases rightN (bs d.co) <;> cases rightT d.tk d.tm <;> cases rightV d.dk d.dn (bs d.ds) <;> rfl
  · simp only [e, Int.reduceEq, if_true, if_false]
    unfold nmP
    rw [putP_wr, h1]
    cases rightN (bs d.tb) <;> cases rightN (bs d.co) <;> rfl
  · simp only [e, Int.reduceEq, if_true, if_false]
    unfold nmP
    rw [putP_wr, putP_wr, putP_wr, h1]
    cases rightN (bs d.tb) <;> cases rightN (bs d.co) <;> cases rightN (bs d.to) <;> rfl
  · simp only [e, Int.reduceEq, if_true, if_false]
    unfold kindP nmP
    rw [putP_wr, putP_wr, h1]
    cases rightN (bs d.tb) <;> cases rightN (bs d.co) <;> cases rightT d.tk d.tm <;> rfl
  · simp only [e, Int.reduceEq, if_false]
    unfold valP nmP
    rw [putP_wr, putP_wr, h1]
    cases rightN (bs d.tb) <;> cases rightN (bs d.co) <;> cases rightV d.dk d.dn (bs d.ds) <;> rfl
theorem chgP_wr (d : Dp) (hp : plainD d = true) : (chgP d).wr = !canD d := by
  unfold chgP
  refine rsP_wr _ d hp ?_
  unfold nmP
  rw [putP_wr, putP_wr]; simp

/-! ### The text -/
theorem putP_ok (st : Pst) (t : List UInt8) : putP st t true = ⟨st.l ++ (st.g ++ t), [32], st.wr⟩ := rfl
theorem colX_app (B : List UInt8) (c : Cb) (r : List UInt8) : colX B c r = colX B c [] ++ r := by
  unfold colX
  cases c.nl <;> by_cases h : c.dk = 0 <;> simp [h]
theorem colsX_app (B : List UInt8) : ∀ (l : List Cb) (r : List UInt8), colsX B l r = colsX B l [] ++ r
  | [], r => rfl
  | [c], r => colX_app B c r
  | c :: d :: q, r => by
    show colX B c (44 :: (B ++ colsX B (d :: q) r)) = colX B c (44 :: (B ++ colsX B (d :: q) [])) ++ r
    rw [colX_app B c (44 :: (B ++ colsX B (d :: q) r)), colX_app B c (44 :: (B ++ colsX B (d :: q) [])), colsX_app B (d :: q) r]
    simp
theorem clP_ok (st : Pst) (c : Cb) (h : colOk c = true) : clP st c = ⟨st.l ++ (st.g ++ colX [32] c []), [32], st.wr⟩ := by
  unfold colOk at h
  simp only [Bool.and_eq_true] at h
  obtain ⟨h1, h2, h3⟩ := h
  unfold clP defP nullP kindP nmP
  rw [h1, h2, h3, putP_ok, putP_ok]
  unfold colX
  by_cases hk : c.dk = 0
  · have h0 : nulV c.dk c.dn c.ds = true := by rw [hk] at h3 ⊢; exact nul_of h3
    rw [h0, if_pos rfl, if_pos hk]
    cases c.nl
    · simp [putP_ok]
    · rw [if_pos rfl, putP_ok]; simp
  · have h0 : nulV c.dk c.dn c.ds = false := by
      cases h : nulV c.dk c.dn c.ds with
      | false => rfl
      | true => exact absurd (nulV_iff.1 h).1 hk
    rw [h0, if_neg (by decide), if_neg hk, putP_ok, putP_ok]
    cases c.nl
    · simp [putP_ok]
    · rw [if_pos rfl, putP_ok]; simp
theorem colsG_ok : ∀ (l : List Cb) (st : Pst) (f : Bool), l ≠ [] → l.all colOk = true → colsG st f l = ⟨st.l ++ ((if f = true then [] else [44]) ++ (st.g ++ colsX [32] l [])), [32], st.wr⟩
  | [], _, _, h, _ => absurd rfl h
  | [c], st, f, _, h => by
    have hc : colOk c = true := by simpa using h
    show clP (comP st f) c = _
    rw [clP_ok _ _ hc]
    cases f
    · show (⟨(st.l ++ [44]) ++ (st.g ++ colX [32] c []), [32], st.wr⟩ : Pst) = _
      simp [colsX]
    · show (⟨st.l ++ (st.g ++ colX [32] c []), [32], st.wr⟩ : Pst) = _
      simp [colsX]
  | c :: d :: q, st, f, _, h => by
    have hc : colOk c = true := by simp at h; exact h.1
    have hq : (d :: q).all colOk = true := by simp at h ⊢; exact h.2
    show colsG (clP (comP st f) c) false (d :: q) = _
    rw [colsG_ok (d :: q) _ false (by simp) hq, clP_ok _ _ hc]
    have e : colsX [32] (c :: d :: q) [] = colX [32] c [] ++ (44 :: ([32] ++ colsX [32] (d :: q) [])) := colX_app _ _ _
    rw [e]
    cases f
    · show (⟨((st.l ++ [44]) ++ (st.g ++ colX [32] c [])) ++ ([44] ++ ([32] ++ colsX [32] (d :: q) [])), [32], st.wr⟩ : Pst) = _
      simp
    · show (⟨(st.l ++ (st.g ++ colX [32] c [])) ++ ([44] ++ ([32] ++ colsX [32] (d :: q) [])), [32], st.wr⟩ : Pst) = _
      simp
theorem colsP_ok (st : Pst) (l : List Cb) (h : l.all colOk = true) (h1 : 1 ≤ l.length ∧ l.length ≤ 10) : colsP st l = ⟨st.l ++ (st.g ++ (40 :: colsX [32] l [41])), [32], st.wr⟩ := by
  unfold colsP
  rw [if_pos h1, colsG_ok l _ true (fun e => by rw [e] at h1; simp at h1) h, putP_ok, colsX_app [32] l [41]]
  unfold rawP
  simp
/-- what is written is the text -/
theorem chgP_ok (d : Dp) (hc : canD d = true) : (chgP d).l = dtx [32] d [] := by
  unfold canD at hc
  simp only [Bool.and_eq_true] at hc
  obtain ⟨hp, ht, hr⟩ := hc
  have hop := plainD_op hp
  unfold chgP nmP dtx
  rw [ht, putP_ok, putP_ok]
  unfold rsP
  rcases (show d.op = 1 ∨ d.op = 2 ∨ d.op = 3 ∨ d.op = 4 ∨ d.op = 5 ∨ d.op = 6 ∨ d.op = 7 ∨ d.op = 8 by omega) with e | e | e | e | e | e | e | e
  · simp only [e, Int.reduceEq, if_true, if_false] at hr ⊢
    simp only [Bool.and_eq_true, decide_eq_true_eq] at hr
    obtain ⟨hcs, hk, hl⟩ := hr
    unfold nmP
    rw [colsP_ok _ _ hcs hl, hk, putP_ok, putP_ok, colsX_app [32] d.cols [41], colsX_app [32] d.cols (41 :: _)]
    simp
  · simp only [e, Int.reduceEq, if_true, if_false] at hr ⊢
    simp
  · simp only [e, Int.reduceEq, if_true, if_false] at hr ⊢
    unfold nmP
    rw [hr, putP_ok, putP_ok]
    simp
  · simp only [e, Int.reduceEq, if_true, if_false] at hr ⊢
    simp only [Bool.and_eq_true] at hr
    rw [clP_ok _ _ (by unfold colOk; simp [hr])]
    simp
  · simp only [e, Int.reduceEq, if_true, if_false] at hr ⊢
    unfold nmP
    rw [hr, putP_ok]
    simp
  · simp only [e, Int.reduceEq, if_true, if_false] at hr ⊢
    simp only [Bool.and_eq_true] at hr
    unfold nmP
    rw [hr.1, hr.2, putP_ok, putP_ok, putP_ok]
    simp
  · simp only [e, Int.reduceEq, if_true, if_false] at hr ⊢
    simp only [Bool.and_eq_true] at hr
    unfold kindP nmP
    rw [hr.1, hr.2, putP_ok, putP_ok]
    simp
  · simp only [e, Int.reduceEq, if_false] at hr ⊢
    simp only [Bool.and_eq_true] at hr
    unfold valP nmP
    rw [hr.1, hr.2, putP_ok, putP_ok]
    simp
/-! ### The word null -/
/-- a value that is read without an error has Kind 0 just where the word null stands -/
theorem resW_kind {v x : Val} {n m e : Nat} (h : resW v n e = (x, m, 0)) : x.1 = v.1 := by
  unfold resW at h
  split at h
  · exact (congrArg (fun q : Val × Nat × Nat => q.1.1) h).symm
  · rename_i he
    exact absurd (congrArg (fun q : Val × Nat × Nat => q.2.2) h) he
theorem readW_kind {l : List UInt8} {v : Val} {n : Nat} (h : readW l = (v, n, 0)) : v.1 = 0 ↔ l.take (rdN l) = nullT := by
  have no5 : ∀ {y : Val} {k e : Nat}, e ≠ 0 → (y, k, e) = (v, n, 0) → False := fun he h => he (congrArg (fun q : Val × Nat × Nat => q.2.2) h)
  constructor
  · intro h0
    unfold readW at h
    split at h
    · assumption
    · exfalso
      split at h
      · unfold numR numR2 at h
        split at h
        · split at h
          · have e0 : (2 : Int) = v.1 := congrArg (fun q : Val × Nat × Nat => q.1.1) h
            rw [h0] at e0
            exact absurd e0 (by decide)
          · have e0 : v.1 = 1 := resW_kind h
            rw [h0] at e0
            exact absurd e0 (by decide)
        · rename_i e; exact no5 e h
      · split at h
        · unfold txtR at h
          split at h
          · have e0 : v.1 = 3 := resW_kind h
            rw [h0] at e0
            exact absurd e0 (by decide)
          · exact no5 (by decide) h
        · split at h
          · unfold bytR at h
            split at h
            · have e0 : v.1 = 4 := resW_kind h
              rw [h0] at e0
              exact absurd e0 (by decide)
            · exact no5 (by decide) h
          · exact no5 (by decide) h
  · intro h0
    unfold readW at h
    rw [if_pos h0] at h
    exact (congrArg (fun q : Val × Nat × Nat => q.1.1) h).symm
theorem readW_is {l : List UInt8} (h : l.take (rdN l) = nullT) : readW l = ((0, 0, []), 4, 0) := by unfold readW; rw [if_pos h]
end Go.Proofs.YtebldfnocpcddaaGreatDoor

/-
  The program's printer of changes (layer 10) in memory: a strings.Builder that lies within a struct of four cells; what the builder's methods do there.
-/
namespace Go.Proofs.YtebldfnocpcddaaGreatDoor
open Go.RowKit

/-- the printer's block: what 'addr' and 'buf' hold -/
abbrev PrC (w : World) (b : Nat) (p v : Value) (g : List UInt8) (wr : Bool) : Prop := w.heap[b]? = some (.cells #[p, v, .string (strB g), .bool wr] 51 (0, 0))
/-- the printer in a world behind w0, with all that it made -/
structure PrAt (w0 w : World) (b : Nat) (p v : Value) (st : Pst) : Prop where
  low : w0.heap.size ≤ b
  bel : Below w0.heap.size w0 w
  box : PrC w b p v st.g st.wr
  own : OwnB w w0.heap.size v st.l
def PrX (w0 w : World) (b : Nat) (st : Pst) : Prop := ∃ p v, PrAt w0 w b p v st ∧ (p = .pointer none ∨ p = .pointer (some ⟨b, 0, none⟩))
section
variable {w0 w w' : World} {b : Nat} {p v : Value} {st : Pst}
theorem PrAt.lt (h : PrAt w0 w b p v st) : b < w.heap.size := (Array.getElem?_eq_some_iff.1 h.box).1
theorem PrAt.cells (h : PrAt w0 w b p v st) : w.cell? ⟨b, 0, none⟩ = some p ∧ w.cell? ⟨b, 1, none⟩ = some v ∧ w.cell? ⟨b, 2, none⟩ = some (.string (strB st.g)) ∧ w.cell? ⟨b, 3, none⟩ = some (.bool st.wr) := by
  refine ⟨?_, ?_, ?_, ?_⟩ <;> (rw [cell_of_row w b _ _ _ (0, 0) h.box]; rfl)
theorem PrAt.frozen (h : PrAt w0 w b p v st) (i : Nat) : w.frozen? ⟨b, i, none⟩ = false := frozen_of_row w b i _ _ h.box
theorem PrAt.shape (h : PrAt w0 w b p v st) : w.shape? b = some (51, 4) := by
  have := h.box
  simp [World.shape?, this]
theorem PrAt.ne (h : PrAt w0 w b p v st) : v.ownBlock ≠ some b := Lib.ownBlock_ne h.own h.box (by decide)
theorem PrAt.size (h : PrAt w0 w b p v st) : w0.heap.size ≤ w.heap.size := h.bel.size
/-- behind what leaves all old memory alone -/
theorem PrAt.below (h : PrAt w0 w b p v st) (hb : Below w.heap.size w w') : PrAt w0 w' b p v st := ⟨h.low, h.bel.trans (hb.mono h.size), (hb.block b h.lt).trans h.box, owns_below h.own hb⟩
theorem PrX.below (h : PrX w0 w b st) (hb : Below w.heap.size w w') : PrX w0 w' b st := by
  obtain ⟨p, v, h, hp⟩ := h
  exact ⟨p, v, h.below hb, hp⟩
/-- blocks of other things stay -/
def Keep (b : Nat) (w w' : World) : Prop := ∀ (T : TypeId) (K : Nat) (cs : List Value), T ≠ 5 → K ≠ b → Bk T w K cs → Bk T w' K cs
theorem Keep.refl (b : Nat) (w : World) : Keep b w w := fun _ _ _ _ _ h => h
theorem Keep.trans {b : Nat} {w w1 w2 : World} (h : Keep b w w1) (k : Keep b w1 w2) : Keep b w w2 := fun T K cs h1 h2 h3 => k T K cs h1 h2 (h T K cs h1 h2 h3)
theorem Keep.set (b i : Nat) (u : Value) (w : World) : Keep b w (w.setCell ⟨b, i, none⟩ u) := fun _ _ _ _ h2 h3 => (heap_setCell_other w ⟨b, i, none⟩ _ u (fun e => h2 e)).trans h3
theorem Keep.of_below {b : Nat} {w w' : World} (hb : Below w.heap.size w w') : Keep b w w' := fun _ _ _ _ _ h => h.below hb
/-- a store into the block -/
theorem prc_set (hb : PrC w b p v st.g st.wr) (i : Nat) (u : Value) : (w.setCell ⟨b, i, none⟩ u).heap[b]? = some (.cells ((#[p, v, .string (strB st.g), .bool st.wr] : Array Value).setIfInBounds i u) 51 (0, 0)) := heap_setCell_same w b i _ _ u hb
theorem own_set (hv : OwnB w w0.heap.size v st.l) (hne : v.ownBlock ≠ some b) (i : Nat) (u : Value) : OwnB (w.setCell ⟨b, i, none⟩ u) w0.heap.size v st.l := by
  refine World.ownsRow.kept (row := some b) hv ⟨rfl, rfl, rfl, by simp [World.setCell], fun k _ hk => Below.heap_setCell _ _ _ _ (fun e => hk (by simp [e]))⟩ (Or.inr hne)
theorem PrAt.setP (h : PrAt w0 w b p v st) (q : Value) : PrAt w0 (w.setCell ⟨b, 0, none⟩ q) b q v st :=
  ⟨h.low, h.bel.setCell (p := ⟨b, 0, none⟩) h.low _, prc_set h.box 0 q, own_set h.own h.ne 0 q⟩
theorem PrAt.setG (h : PrAt w0 w b p v st) (g : List UInt8) : PrAt w0 (w.setCell ⟨b, 2, none⟩ (.string (strB g))) b p v ⟨st.l, g, st.wr⟩ :=
  ⟨h.low, h.bel.setCell (p := ⟨b, 2, none⟩) h.low _, prc_set h.box 2 _, own_set h.own h.ne 2 _⟩
theorem PrAt.setW (h : PrAt w0 w b p v st) (wr : Bool) : PrAt w0 (w.setCell ⟨b, 3, none⟩ (.bool wr)) b p v ⟨st.l, st.g, wr⟩ :=
  ⟨h.low, h.bel.setCell (p := ⟨b, 3, none⟩) h.low _, prc_set h.box 3 _, own_set h.own h.ne 3 _⟩
end
theorem sizeBld : (Tryz.prog.info? 49).map (·.size) = some 2 := by kernel_rfl
theorem liesBld : liesAt Tryz.prog Tryz.prog.depth 51 (4 / Tryz.prog.cellsOf 51) 0 49 1 = true := by kernel_rfl
theorem cellsU8 : Tryz.prog.cellsOf 5 = 1 := by kernel_rfl
set_option maxRecDepth 100000 in
set_option maxHeartbeats 1600000 in
/-- copyCheck: behind it the builder is used -/
theorem pcopy_any (w0 : World) (b : Nat) (p v : Value) (st : Pst) (w : World) (h : PrAt w0 w b p v st) (hp : p = .pointer none ∨ p = .pointer (some ⟨b, 0, none⟩)) :
    Calls Tryz.prog 90 #[.pointer (some ⟨b, 0, none⟩)] w fun e w' => e = .returned (.tuple #[]) ∧ PrAt w0 w' b (.pointer (some ⟨b, 0, none⟩)) v st ∧ Keep b w w' := by
  obtain ⟨j, hj, hjs⟩ := Option.map_eq_some_iff.1 sizeBld
  obtain ⟨c0, _, _, _⟩ := h.cells
  have f0 := h.frozen 0
  have hsh := h.shape
  have H := Lib.hid h; clear h
  rcases hp with rfl | rfl
  · go_enter Tryz.func90, Tryz.ntmps90
    go_wp2_with fail
    rw [Lib.run_to_unsafe w ⟨b, 0, none⟩ Tryz.underlying46 Tryz.underlying129 hj (by rw [hjs]; decide) hsh (Nat.zero_lt_succ 3)]
    simp only [Result.andThen]
    rw [Oper.upon_value]
    go_wp2_with fail
    rw [run_callFunc_extern Tryz.func113 (by kernel_rfl) (by kernel_rfl) (by kernel_rfl) (e := Extern.AbiNoEscape.same) (by kernel_rfl)]
    rw [Lib.run_noEscape]
    simp only [Result.andThen]
    rw [Oper.upon_value]
    go_wp2_with fail
    rw [Lib.run_from_unsafe w ⟨b, 0, none⟩ Tryz.underlying129 Tryz.underlying46 hj hsh liesBld]
    simp only [Result.andThen]
    rw [Oper.upon_value]
    go_wp2_with fail
    go_end0
    exact ⟨rfl, H.out.setP _, Keep.set _ _ _ _⟩
  · go_enter Tryz.func90, Tryz.ntmps90
    go_wp2_with fail
    rw [Lib.run_neq_ptr_same w _ Tryz.underlying46 hj]
    go_wp2_with fail
    go_end0
    exact ⟨rfl, H.out, Keep.refl _ _⟩
set_option maxRecDepth 100000 in
set_option maxHeartbeats 1600000 in
theorem pwrite_any (w0 : World) (b : Nat) (st : Pst) (s : ByteArray) (w : World) (h : PrX w0 w b st) (hl : st.l.length + s.size ≤ 1099511627776) :
    Calls Tryz.prog 70 #[.pointer (some ⟨b, 0, none⟩), .string s] w fun e w' => e = .returned (.tuple #[.int .i64 s.size, .nilIface]) ∧ PrX w0 w' b (rawP st (bs s)) ∧ Keep b w w' := by
  obtain ⟨p, v, h, hp⟩ := h
  obtain ⟨i0, hi, hz0, hz1, hz2⟩ := info_parts info8
  have HC := Lib.hid (pcopy_any w0 b p v st w h hp)
  clear h hp
  go_enter Tryz.func70, Tryz.ntmps70
  go_wp2_with fail
  refine HC.out.mono ?_
  rintro e w1 ⟨rfl, h1, hk1⟩
  have HK1 := Lib.hid hk1; clear hk1
  obtain ⟨c0, c1, c2, c3⟩ := h1.cells
  have H1 := Lib.hid h1; clear h1
  go_wp2_with (at_builtin; refine Lib.wpList_append_own_string _ rfl _ _ 47 9 rfl w0.heap.size 5 i0 Tryz.underlying47 Tryz.underlying9 hi hz0 hz1 hz2 _ st.l.length (B8 st.l) rfl H1.out.own s rfl ?c3 ?c4 ?c5 ?_)
  case c3 => unfold maxLen; omega
  case c4 => omega
  case c5 => exact H1.out.size
  intro v' w2 hown' hgrow _
  have hb2 : PrC w2 b (.pointer (some ⟨b, 0, none⟩)) v st.g st.wr := (hgrow.block b H1.out.lt (fun e => H1.out.ne e.symm)).trans H1.out.box
  have hbel : Below w0.heap.size w0 w2 := H1.out.bel.trans ((Below.refl w0.heap.size w1).grown hgrow H1.out.size (fun k hk => (World.ownsRow.lt H1.out.own k hk).1))
  have hv : OwnB w2 w0.heap.size v' (st.l ++ bs s) := by
    unfold OwnB
    rw [B8_append, List.length_append, bs_length]
    exact hown'
  have d1 : w2.cell? ⟨b, 1, none⟩ = some v := by rw [cell_of_row w2 b _ _ _ (0, 0) hb2]; rfl
  have f1 : w2.frozen? ⟨b, 1, none⟩ = false := frozen_of_row w2 b 1 _ _ hb2
  have hlow := H1.out.low
  have HK2 : Hid (Keep b w w2) := HK1.out.trans fun T K cs h1 _ h3 => (hgrow.block K h3.lt (fun e => Lib.ownBlock_ne H1.out.own h3 h1 e.symm)).trans h3
  have Hb2 := Lib.hid hb2; have Hbel := Lib.hid hbel; have Hv := Lib.hid hv; have Hlow := Lib.hid hlow
  clear hb2 hbel hv hlow hown' hgrow c0 c1 c2 c3
  obtain ⟨ao, n', cap, rfl⟩ : ∃ ao n' cap, v' = .slice ao n' cap := by
    rcases OwnB.form Hv.out with ⟨hv, _⟩ | ⟨g, cap, hv, _⟩
    · exact ⟨_, _, _, hv⟩
    · exact ⟨_, _, _, hv⟩
  go_wp2_with fail
  go_ret2
  exact ⟨rfl, ⟨.pointer (some ⟨b, 0, none⟩), _, ⟨Hlow.out, Hbel.out.setCell (p := ⟨b, 1, none⟩) Hlow.out _, prc_set (st := st) Hb2.out 1 _, own_set (st := ⟨st.l ++ bs s, st.g, st.wr⟩) Hv.out (Lib.ownBlock_ne Hv.out Hb2.out (by decide)) 1 _⟩, .inr rfl⟩, HK2.out.trans (Keep.set _ _ _ _)⟩
set_option maxRecDepth 100000 in
set_option maxHeartbeats 1600000 in
theorem pstring_any (w0 : World) (b : Nat) (st : Pst) (w : World) (h : PrX w0 w b st) (h0 : st.l ≠ []) (hl : st.l.length ≤ 1099511627776) :
    Calls Tryz.prog 21 #[.pointer (some ⟨b, 0, none⟩)] w fun e w' => e = .returned (.string ⟨st.l.toArray⟩) ∧ Below w0.heap.size w0 w' := by
  obtain ⟨p, v, h, hp⟩ := h
  have hl0 : st.l.length ≠ 0 := by simpa using h0
  have hown := h.own
  have hbox := h.box
  have hbel := h.bel
  clear h hp
  obtain ⟨g, cap, cur, rfl, hbg, hg, hnc, hcm, hcs, htake⟩ : ∃ g cap cur, v = .slice (some ⟨g, 0, none⟩) st.l.length cap ∧ w0.heap.size ≤ g ∧ w.heap[g]? = some (.cells cur 5 (0, 0)) ∧ st.l.length ≤ cap ∧ cap ≤ maxLen ∧ cur.size = cap * 1 ∧ cur.toList.take (st.l.length * 1) = B8 st.l := by
    rcases hown.2 with ⟨_, hz⟩ | ⟨g, cap, cur, hv, r⟩
    · exact absurd hz hl0
    · exact ⟨g, cap, cur, hv, r⟩
  have c1 : w.drew.cell? ⟨b, 1, none⟩ = some (.slice (some ⟨g, 0, none⟩) st.l.length cap) := by
    rw [cell_of_row w.drew b _ _ _ (0, 0) hbox]; rfl
  have hSD : (Builtin.unsafeSliceData_ #[47] 82 #[.slice (some ⟨g, 0, none⟩) st.l.length cap]).run Tryz.prog w.drew = .ok (.pointer (some ⟨g, 0, none⟩)) w.drew :=
    Lib.run_unsafeSliceData_row _ _ _ _ _ _ (by omega)
  have hUS : (Builtin.unsafeString_ #[82, 3] 9 #[.pointer (some ⟨g, 0, none⟩), .int .i64 st.l.length]).run Tryz.prog w.drew = .ok (.string ⟨st.l.toArray⟩) (w.drew.freeze ⟨g, 0, none⟩ st.l.length) := by
    refine Lib.run_unsafeString_row w.drew 82 3 9 5 Tryz.underlying82 cellsU8 g cur.size (by have hg' : w.drew.heap[g]? = some (.cells cur 5 (0, 0)) := hg; simp [World.shape?, hg']) st.l h0 (by omega) (by unfold maxLen at hcm; omega) ?_
    intro j x hx
    have := World.ownsRow.cells hown (g := g) rfl j (.int .u8 x.toNat) (by simp [B8, hx])
    exact this
  have Hbel := Lib.hid hbel
  clear hown hbox hbel hg hcs htake h0 hl0
  go_enter Tryz.func21, Tryz.ntmps21
  go_wp2_with fail
  go_region
  all_goals (go_wp2_with fail; go_ret; exact ⟨rfl, Lib.below_freeze (Below.drew Hbel.out) (p := ⟨g, 0, none⟩) hbg _⟩)
end Go.Proofs.YtebldfnocpcddaaGreatDoor
