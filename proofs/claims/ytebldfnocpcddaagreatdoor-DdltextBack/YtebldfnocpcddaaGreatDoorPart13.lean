/-
  Texts that the proof needs, one behind the other: DdlMath, DdlMath2.
-/
import Derived.Test.YtebldfnocpcddaaGreatDoorPart6
import Derived.Test.YtebldfnocpcddaaGreatDoorPart8
import Derived.Test.YtebldfnocpcddaaGreatDoorPart12

/-
  Changes of a catalog in plain words (layer 9): which are plain, what is wrong with one, the catalog behind it, and that it is right. No memory stands here: a table without the place of its columns (Tp).
-/
namespace Go.Proofs.YtebldfnocpcddaaGreatDoor

/-! ### Lists whose numbers increase and whose names are unlike -/
abbrev Apart {α : Type} (idf : α → Int) (nmf : α → ByteArray) (x y : α) : Prop := idf x < idf y ∧ nmf x ≠ nmf y
theorem dist_pair {α : Type} {idf : α → Int} {nmf : α → ByteArray} {l : List α} : Dist idf nmf l ↔ l.Pairwise (Apart idf nmf) := by
  rw [List.pairwise_iff_getElem]
  constructor
  · intro h i j hi hj hij
    have hx : l[i]? = some l[i] := by simp [hi]
    have hy : l[j]? = some l[j] := by simp [hj]
    refine ⟨?_, (h j hj l[j] hy).2 i l[i] hij hx⟩
    exact dist_lt h (j - i - 1) i l[i] l[j] hx (by rw [show i + (j - i - 1) + 1 = j by omega]; exact hy)
  · intro h i hi x hx
    obtain ⟨h1, rfl⟩ := List.getElem?_eq_some_iff.1 hx
    refine ⟨fun y h0 hy => ?_, fun j y hj hy => ?_⟩
    · obtain ⟨h2, rfl⟩ := List.getElem?_eq_some_iff.1 hy
      exact (h (i - 1) i h2 h1 (by omega)).1
    · obtain ⟨h2, rfl⟩ := List.getElem?_eq_some_iff.1 hy
      exact (h j i h2 h1 hj).2

/-- a table without the place of its columns; a change -/
structure Tp where
  id : Int
  nm : ByteArray
  key : Int
  nx : Int
  cols : List Cb
structure Dp where
  op : Int
  tb : ByteArray
  co : ByteArray
  «to» : ByteArray
  key : ByteArray
  tk : Int
  tm : Int
  nl : Bool
  dk : Int
  dn : Int
  ds : ByteArray
  cols : List Cb
def Tb.p (t : Tb) : Tp := ⟨t.id, t.nm, t.key, t.nx, t.cols⟩
def Tp.b (t : Tp) : Tb := ⟨t.id, t.nm, t.key, t.nx, none, 0, t.cols⟩
theorem right_p (t : Tb) : rightTab t = rightTab t.p.b := rfl
def RightT (t : Tp) : Prop := 0 ≤ t.id ∧ rightN (bs t.nm) = true ∧ t.nx ≤ 200 ∧ 1 ≤ t.cols.length ∧ t.cols.length ≤ 10 ∧ (∀ c ∈ t.cols, rightC c = true ∧ c.id < t.nx) ∧ t.cols.Pairwise (Apart Cb.id Cb.nm) ∧ ∃ c ∈ t.cols, c.id = t.key ∧ c.nl = false
theorem rightTp_iff (t : Tp) : rightTab t.b = true ↔ RightT t := by
  unfold RightT
  rw [← dist_pair]
  show (decide (0 ≤ t.id) && (rightN (bs t.nm) && (decide (t.nx ≤ 200) && (decide (1 ≤ (t.cols.length : Int)) && (decide ((t.cols.length : Int) ≤ 10) && (rightCols t.b && tf (keyOk t.b))))))) = true ↔ _
  have hc : rightCols t.b = ((t.cols.all fun c => rightC c && decide (c.id < t.nx)) && tf (Dist Cb.id Cb.nm t.cols)) := rfl
  rw [hc]
  simp only [Bool.and_eq_true, decide_eq_true_eq, tf_iff, List.all_eq_true]
  constructor
  · rintro ⟨h1, h2, h3, h4, h5, ⟨h6, h7⟩, h8⟩
    refine ⟨h1, h2, h3, by omega, by omega, h6, h7, ?_⟩
    have := (tf_iff.2 h8).symm.trans (key_any (t := t.b) h7)
    obtain ⟨c, hc, h⟩ := List.any_eq_true.1 this.symm
    simp only [Bool.and_eq_true, beq_iff_eq, Bool.not_eq_true'] at h
    exact ⟨c, hc, h⟩
  · rintro ⟨h1, h2, h3, h4, h5, h6, h7, c, hc, h⟩
    refine ⟨h1, h2, h3, by omega, by omega, ⟨h6, h7⟩, ?_⟩
    refine tf_iff.1 ((key_any (t := t.b) h7).trans (List.any_eq_true.2 ⟨c, hc, ?_⟩))
    simp only [Bool.and_eq_true, beq_iff_eq, Bool.not_eq_true']
    exact h
def RightL (l : List Tp) : Prop := l.length ≤ 6 ∧ (∀ t ∈ l, RightT t) ∧ l.Pairwise (Apart Tp.id Tp.nm)
theorem rightL_iff (l : List Tb) : rightCat l = true ↔ RightL (l.map Tb.p) := by
  unfold rightCat RightL
  simp only [Bool.and_eq_true, decide_eq_true_eq, tf_iff, List.all_eq_true, List.length_map, List.mem_map, List.pairwise_map, dist_pair]
  constructor
  · rintro ⟨h1, h2, h3⟩
    exact ⟨by omega, fun t ⟨x, hx, e⟩ => by rw [← e]; exact (rightTp_iff _).1 (h2 x hx), h3⟩
  · rintro ⟨h1, h2, h3⟩
    exact ⟨by omega, fun t ht => (rightTp_iff t.p).2 (h2 _ ⟨t, ht, rfl⟩), h3⟩

/-! ### Changes -/
def emp (s : ByteArray) : Bool := eqS s ByteArray.empty
def zTy (d : Dp) : Bool := (d.tk == 0) && (d.tm == 0)
def zDf (d : Dp) : Bool := nulV d.dk d.dn d.ds
def zCo (d : Dp) : Bool := d.cols.isEmpty
/-- is it well formed? -/
def plainD (d : Dp) : Bool :=
  if d.op = 1 then emp d.co && (emp d.to && (zTy d && (!d.nl && (zDf d && d.cols.all fun c => c.id == 0))))
  else if d.op = 2 then emp d.co && (emp d.to && (emp d.key && (zTy d && (!d.nl && (zDf d && zCo d)))))
  else if d.op = 3 then emp d.co && (emp d.key && (zTy d && (!d.nl && (zDf d && zCo d))))
  else if d.op = 4 then emp d.to && (emp d.key && zCo d)
  else if d.op = 5 then emp d.to && (emp d.key && (zTy d && (!d.nl && (zDf d && zCo d))))
  else if d.op = 6 then emp d.key && (zTy d && (!d.nl && (zDf d && zCo d)))
  else if d.op = 7 then emp d.to && (emp d.key && (!d.nl && (zDf d && zCo d)))
  else if d.op = 8 then emp d.to && (emp d.key && (zTy d && (!d.nl && zCo d)))
  else false
def findT (l : List Tp) (s : ByteArray) : Option Nat := l.findIdx? fun t => eqS t.nm s
def colP (l : List Cb) (s : ByteArray) : Option Nat := l.findIdx? fun c => eqS c.nm s
/-- does a value fit as a Default? -/
def presetD (tk tm dk dn : Int) (ds : ByteArray) : Bool := nulV dk dn ds || fitT tk tm dk dn ds
/-- why the column at a place of a new table can't stand; 0 -/
def ncolE (l : List Cb) (i : Nat) (c : Cb) : Int :=
  if rightN (bs c.nm) = true then (if ((l.take i).findIdx? fun y => eqS y.nm c.nm).isSome = true then 14 else if rightT c.tk c.tm = true then (if presetD c.tk c.tm c.dk c.dn c.ds = true then 0 else 10) else 9) else 8
def ncolsE (l : List Cb) : Nat → List Cb → Int
  | _, [] => 0
  | i, c :: r => if ncolE l i c = 0 then ncolsE l (i + 1) r else ncolE l i c
def createE (l : List Tp) (d : Dp) (id : Int) : Int :=
  if rightN (bs d.tb) = true then
    if (findT l d.tb).isSome = true then 14 else if 6 ≤ l.length then 3 else if (l.findIdx? fun t => t.id == id).isSome = true then 24 else if d.cols.length = 0 then 5 else if 10 < d.cols.length then 3
    else if ncolsE d.cols 0 d.cols = 0 then (match (colP d.cols d.key).bind fun k => d.cols[k]? with
      | none => 15
      | some c => if c.nl = true then 11 else 0)
    else ncolsE d.cols 0 d.cols
  else 8
def addE (t : Tp) (d : Dp) : Int :=
  if 10 ≤ t.cols.length ∨ 200 ≤ t.nx then 3 else if rightN (bs d.co) = true then
    if (colP t.cols d.co).isSome = true then 14 else if rightT d.tk d.tm = true then
      if presetD d.tk d.tm d.dk d.dn d.ds = true then (if d.nl = false ∧ nulV d.dk d.dn d.ds = true then 11 else 0) else 10
    else 9
  else 8
/-- the column of a name -/
def colV (l : List Cb) (s : ByteArray) : Option Cb := (colP l s).bind fun k => l[k]?
def wrongE (l : List Tp) (t : Tp) (d : Dp) : Int :=
  if d.op = 2 then 0 else if d.op = 3 then (if rightN (bs d.to) = true then (if (findT l d.to).isSome = true then 14 else 0) else 8)
  else if d.op = 4 then addE t d
  else match colV t.cols d.co with
    | none => 13
    | some x => if d.op = 5 ∧ x.id = t.key then 15 else if d.op = 6 ∧ rightN (bs d.to) = false then 8 else if d.op = 6 ∧ (colP t.cols d.to).isSome = true then 14
      else if d.op = 7 ∧ rightT d.tk d.tm = false then 9 else if d.op = 7 ∧ wideT d.tk d.tm x.tk x.tm = false then 16 else if d.op = 8 ∧ presetD x.tk x.tm d.dk d.dn d.ds = false then 10 else 0
/-- a Default cast to a type -/
def castC (tk tm : Int) (c : Cb) : Cb := if nulV c.dk c.dn c.ds = true then { c with tk := tk, tm := tm, dk := 0, dn := 0, ds := ⟨#[]⟩ } else { c with tk := tk, tm := tm, dk := tk, dn := cN tk c.dn, ds := cS tk c.dk c.dn c.ds }
def colsD (t : Tp) (d : Dp) : List Cb :=
  if d.op = 4 then t.cols ++ [⟨t.nx, d.co, d.tk, d.tm, d.nl, d.dk, d.dn, d.ds⟩]
  else if d.op = 5 then t.cols.filter fun c => !eqS c.nm d.co
  else if d.op = 6 then t.cols.map fun c => if eqS c.nm d.co = true then { c with nm := d.to } else c
  else if d.op = 7 then t.cols.map fun c => if eqS c.nm d.co = true then castC d.tk d.tm c else c
  else if d.op = 8 then t.cols.map fun c => if eqS c.nm d.co = true then { c with dk := d.dk, dn := d.dn, ds := d.ds } else c
  else t.cols
/-- a table, changed -/
def tableD (t : Tp) (d : Dp) : Tp := ⟨t.id, if d.op = 3 then d.to else t.nm, t.key, if d.op = 4 then t.nx + 1 else t.nx, colsD t d⟩
theorem colP_none {l : List Cb} {s : ByteArray} (h : (colP l s).isSome ≠ true) : ∀ c ∈ l, c.nm ≠ s := fun c hc e => by
  unfold colP at h
  cases hf : l.findIdx? fun c => eqS c.nm s with
  | some k => rw [hf] at h; exact h rfl
  | none =>
    rw [List.findIdx?_eq_none_iff] at hf
    have := hf c hc
    rw [eqS_iff.2 e] at this; cases this
theorem colV_some {l : List Cb} {s : ByteArray} {x : Cb} (h : colV l s = some x) : x ∈ l ∧ x.nm = s := by
  unfold colV colP at h
  cases hf : l.findIdx? fun c => eqS c.nm s with
  | none => rw [hf] at h; cases h
  | some k =>
    rw [hf] at h
    obtain ⟨y, h1, h2, _⟩ := find_some hf
    have : l[k]? = some x := h
    rw [h1] at this; cases this
    exact ⟨List.mem_of_getElem? h1, eqS_iff.1 h2⟩
/-- in a list of unlike names two of one name are one -/
theorem apart_nm {l : List Cb} (hp : l.Pairwise (Apart Cb.id Cb.nm)) {a b : Cb} (ha : a ∈ l) (hb : b ∈ l) (h : a.nm = b.nm) : a = b := by
  obtain ⟨i, hi⟩ := List.mem_iff_getElem?.1 ha
  obtain ⟨j, hj⟩ := List.mem_iff_getElem?.1 hb
  obtain ⟨h1, rfl⟩ := List.getElem?_eq_some_iff.1 hi
  obtain ⟨h2, rfl⟩ := List.getElem?_eq_some_iff.1 hj
  rw [List.pairwise_iff_getElem] at hp
  rcases Nat.lt_trichotomy i j with e | e | e
  · exact absurd h (hp i j h1 h2 e).2
  · subst e; rfl
  · exact absurd h.symm (hp j i h2 h1 e).2
theorem rightC_iff (c : Cb) : rightC c = true ↔ 0 ≤ c.id ∧ c.id < 200 ∧ rightN (bs c.nm) = true ∧ rightT c.tk c.tm = true ∧ presetD c.tk c.tm c.dk c.dn c.ds = true := by
  unfold rightC presetD
  simp only [Bool.and_eq_true, decide_eq_true_eq]
theorem castC_right {c : Cb} {tk tm : Int} (hc : rightC c = true) (hw : wideT tk tm c.tk c.tm = true) (h1 : -9223372036854775808 ≤ c.dn) (h2 : c.dn < 9223372036854775808) : rightC (castC tk tm c) = true := by
  rw [rightC_iff] at hc ⊢
  obtain ⟨a1, a2, a3, a4, a5⟩ := hc
  have hr : rightT tk tm = true := by unfold wideT at hw; simp only [Bool.and_eq_true] at hw; exact hw.1.1.1
  unfold castC
  by_cases hn : nulV c.dk c.dn c.ds = true
  · rw [if_pos hn]
    refine ⟨a1, a2, a3, hr, ?_⟩
    unfold presetD
    rw [show nulV 0 0 ⟨#[]⟩ = true by unfold nulV; rw [show eqS ⟨#[]⟩ ByteArray.empty = true from eqS_self _]; rfl]; rfl
  · rw [if_neg hn]
    refine ⟨a1, a2, a3, hr, ?_⟩
    unfold presetD at a5 ⊢
    simp only [Bool.or_eq_true] at a5 ⊢
    rcases a5 with h | h
    · exact absurd h hn
    · right
      have hk : c.dk = c.tk := by rw [fit_iff] at h; exact h.2.2.1
      exact (widen hw h h1 h2).2
/-- numbers of 64 bits -/
def W64 (l : List Cb) : Prop := ∀ c ∈ l, -9223372036854775808 ≤ c.dn ∧ c.dn < 9223372036854775808
theorem map_right {t : Tp} (ht : RightT t) (f : Cb → Cb) (hid : ∀ c, (f c).id = c.id) (hnl : ∀ c, (f c).nl = c.nl) (hr : ∀ c ∈ t.cols, rightC (f c) = true) (hp : (t.cols.map f).Pairwise (Apart Cb.id Cb.nm)) :
    RightT ⟨t.id, t.nm, t.key, t.nx, t.cols.map f⟩ := by
  obtain ⟨t1, t2, t3, t4, t5, t6, t7, kc, k1, k2, k3⟩ := ht
  refine ⟨t1, t2, t3, by simpa using t4, by simpa using t5, fun c hc => ?_, hp, f kc, List.mem_map.2 ⟨kc, k1, rfl⟩, by rw [hid]; exact k2, by rw [hnl]; exact k3⟩
  obtain ⟨x, hx, rfl⟩ := List.mem_map.1 hc
  exact ⟨hr x hx, by rw [hid]; exact (t6 x hx).2⟩
theorem tableD_right {l : List Tp} {t : Tp} {d : Dp} (ht : RightT t) (h64 : W64 t.cols) (hop : d.op ≠ 1 ∧ d.op ≠ 2 ∧ 1 ≤ d.op ∧ d.op ≤ 8) (he : wrongE l t d = 0) : RightT (tableD t d) := by
  obtain ⟨t1, t2, t3, t4, t5, t6, t7, kc, k1, k2, k3⟩ := ht
  obtain ⟨o1, o2, o3, o4⟩ := hop
  unfold wrongE at he
  rw [if_neg o2] at he
  rcases (show d.op = 3 ∨ d.op = 4 ∨ d.op = 5 ∨ d.op = 6 ∨ d.op = 7 ∨ d.op = 8 by omega) with e | e | e | e | e | e
  · rw [if_pos e] at he
    have hN : rightN (bs d.to) = true := by
      cases h : rightN (bs d.to) with
      | true => rfl
      | false => rw [h] at he; cases he
    have hD : tableD t d = ⟨t.id, d.to, t.key, t.nx, t.cols⟩ := by unfold tableD colsD; simp [e]
    rw [hD]
    exact ⟨t1, hN, t3, t4, t5, t6, t7, kc, k1, k2, k3⟩
  · rw [if_neg (by omega), if_pos e] at he
    unfold addE at he
    by_cases hl : 10 ≤ t.cols.length ∨ 200 ≤ t.nx
    · rw [if_pos hl] at he; cases he
    rw [if_neg hl] at he
    by_cases hN : rightN (bs d.co) = true
    · rw [if_pos hN] at he
      by_cases hC : (colP t.cols d.co).isSome = true
      · rw [if_pos hC] at he; cases he
      rw [if_neg hC] at he
      by_cases hT : rightT d.tk d.tm = true
      · rw [if_pos hT] at he
        by_cases hP : presetD d.tk d.tm d.dk d.dn d.ds = true
        · have hD : tableD t d = ⟨t.id, t.nm, t.key, t.nx + 1, t.cols ++ [⟨t.nx, d.co, d.tk, d.tm, d.nl, d.dk, d.dn, d.ds⟩]⟩ := by unfold tableD colsD; simp [e]
          rw [hD]
          have hk := t6 kc k1
          have hk0 := ((rightC_iff kc).1 hk.1).1
          refine ⟨t1, t2, by show t.nx + 1 ≤ 200; omega, by simp, by simp; omega, fun c hc => ?_, ?_, kc, by simp [k1], k2, k3⟩
          · rcases List.mem_append.1 hc with h | h
            · have := t6 c h
              exact ⟨this.1, by show c.id < t.nx + 1; omega⟩
            · obtain rfl : c = ⟨t.nx, d.co, d.tk, d.tm, d.nl, d.dk, d.dn, d.ds⟩ := by simpa using h
              exact ⟨(rightC_iff _).2 ⟨by show 0 ≤ t.nx; omega, by show t.nx < 200; omega, hN, hT, hP⟩, by show t.nx < t.nx + 1; omega⟩
          · refine List.pairwise_append.2 ⟨t7, List.pairwise_singleton _ _, fun a ha b hb => ?_⟩
            obtain rfl : b = ⟨t.nx, d.co, d.tk, d.tm, d.nl, d.dk, d.dn, d.ds⟩ := by simpa using hb
            exact ⟨(t6 a ha).2, colP_none hC a ha⟩
        · rw [if_neg hP] at he; cases he
      · rw [if_neg hT] at he; cases he
    · rw [if_neg hN] at he; cases he
  · rw [if_neg (by omega), if_neg (by omega)] at he
    cases hx : colV t.cols d.co with
    | none => rw [hx] at he; cases he
    | some x =>
      rw [hx] at he
      obtain ⟨hxm, hxn⟩ := colV_some hx
      simp only [e] at he
      simp at he
      have hD : tableD t d = ⟨t.id, t.nm, t.key, t.nx, t.cols.filter fun c => !eqS c.nm d.co⟩ := by unfold tableD colsD; simp [e]
      rw [hD]
      have hkk : kc ∈ t.cols.filter fun c => !eqS c.nm d.co := by
        refine List.mem_filter.2 ⟨k1, ?_⟩
        cases hq : eqS kc.nm d.co with
        | false => rfl
        | true =>
          have := apart_nm t7 k1 hxm (by rw [eqS_iff.1 hq, hxn])
          rw [← this] at he
          exact absurd k2 he
      refine ⟨t1, t2, t3, List.length_pos_of_mem hkk, Nat.le_trans (List.length_filter_le _ _) t5, fun c hc => t6 c (List.mem_filter.1 hc).1, t7.filter _, kc, hkk, k2, k3⟩
  · rw [if_neg (by omega), if_neg (by omega)] at he
    cases hx : colV t.cols d.co with
    | none => rw [hx] at he; cases he
    | some x =>
      rw [hx] at he
      simp only [e] at he
      simp at he
      have hN : rightN (bs d.to) = true := by
        cases h : rightN (bs d.to) with
        | true => rfl
        | false => rw [h] at he; cases he
      have hC : (colP t.cols d.to).isSome ≠ true := fun h => by rw [hN, h] at he; cases he
      have hD : tableD t d = ⟨t.id, t.nm, t.key, t.nx, t.cols.map fun c => if eqS c.nm d.co = true then { c with nm := d.to } else c⟩ := by unfold tableD colsD; simp [e]
      rw [hD]
      refine map_right ⟨t1, t2, t3, t4, t5, t6, t7, kc, k1, k2, k3⟩ _ (fun c => by split <;> rfl) (fun c => by split <;> rfl) (fun c hc => ?_) (List.pairwise_map.2 (t7.imp_of_mem fun ha hb h => ⟨?_, ?_⟩))
      · split
        · have := (rightC_iff c).1 (t6 c hc).1
          exact (rightC_iff _).2 ⟨this.1, this.2.1, hN, this.2.2.2⟩
        · exact (t6 c hc).1
      · have := h.1
        split <;> split <;> exact this
      · have h0 := colP_none hC
        split
        · split
          · rename_i a b
            exact absurd ((eqS_iff.1 a).trans (eqS_iff.1 b).symm) h.2
          · exact fun e => h0 _ hb e.symm
        · split
          · exact fun e => h0 _ ha e
          · exact h.2
  · rw [if_neg (by omega), if_neg (by omega)] at he
    cases hx : colV t.cols d.co with
    | none => rw [hx] at he; cases he
    | some x =>
      rw [hx] at he
      obtain ⟨hxm, hxn⟩ := colV_some hx
      simp only [e] at he
      simp at he
      have hW : wideT d.tk d.tm x.tk x.tm = true := by
        cases h : rightT d.tk d.tm with
        | false => rw [h] at he; cases he
        | true =>
          cases h2 : wideT d.tk d.tm x.tk x.tm with
          | true => rfl
          | false => rw [h, h2] at he; cases he
      have hD : tableD t d = ⟨t.id, t.nm, t.key, t.nx, t.cols.map fun c => if eqS c.nm d.co = true then castC d.tk d.tm c else c⟩ := by unfold tableD colsD; simp [e]
      rw [hD]
      have hci : ∀ c, (castC d.tk d.tm c).id = c.id ∧ (castC d.tk d.tm c).nl = c.nl ∧ (castC d.tk d.tm c).nm = c.nm := fun c => by unfold castC; split <;> exact ⟨rfl, rfl, rfl⟩
      refine map_right ⟨t1, t2, t3, t4, t5, t6, t7, kc, k1, k2, k3⟩ _ (fun c => by split; exact (hci c).1; rfl) (fun c => by split; exact (hci c).2.1; rfl) (fun c hc => ?_) (List.pairwise_map.2 (t7.imp fun {a b} h => ?_))
      · split
        · rename_i hq
          have : c = x := apart_nm t7 hc hxm (by rw [eqS_iff.1 hq, hxn])
          subst this
          exact castC_right (t6 c hc).1 hW (h64 c hc).1 (h64 c hc).2
        · exact (t6 c hc).1
      · have ea : (if eqS a.nm d.co = true then castC d.tk d.tm a else a).id = a.id ∧ (if eqS a.nm d.co = true then castC d.tk d.tm a else a).nm = a.nm := by split; exact ⟨(hci a).1, (hci a).2.2⟩; exact ⟨rfl, rfl⟩
        have eb : (if eqS b.nm d.co = true then castC d.tk d.tm b else b).id = b.id ∧ (if eqS b.nm d.co = true then castC d.tk d.tm b else b).nm = b.nm := by split; exact ⟨(hci b).1, (hci b).2.2⟩; exact ⟨rfl, rfl⟩
        exact ⟨by rw [ea.1, eb.1]; exact h.1, by rw [ea.2, eb.2]; exact h.2⟩
  · rw [if_neg (by omega), if_neg (by omega)] at he
    cases hx : colV t.cols d.co with
    | none => rw [hx] at he; cases he
    | some x =>
      rw [hx] at he
      obtain ⟨hxm, hxn⟩ := colV_some hx
      simp only [e] at he
      simp at he
      have hD : tableD t d = ⟨t.id, t.nm, t.key, t.nx, t.cols.map fun c => if eqS c.nm d.co = true then { c with dk := d.dk, dn := d.dn, ds := d.ds } else c⟩ := by unfold tableD colsD; simp [e]
      rw [hD]
      refine map_right ⟨t1, t2, t3, t4, t5, t6, t7, kc, k1, k2, k3⟩ _ (fun c => by split <;> rfl) (fun c => by split <;> rfl) (fun c hc => ?_) (List.pairwise_map.2 (t7.imp fun {a b} h => ⟨?_, ?_⟩))
      · split
        · rename_i hq
          have : c = x := apart_nm t7 hc hxm (by rw [eqS_iff.1 hq, hxn])
          subst this
          have := (rightC_iff c).1 (t6 c hc).1
          exact (rightC_iff _).2 ⟨this.1, this.2.1, this.2.2.1, this.2.2.2.1, he⟩
        · exact (t6 c hc).1
      · have := h.1
        split <;> split <;> exact this
      · have := h.2
        split <;> split <;> exact this
/-! ### A new table -/
def madeT (d : Dp) (id : Int) : Tp := ⟨id, d.tb, (((colP d.cols d.key).getD 0 : Nat) : Int), (d.cols.length : Int), d.cols.mapIdx fun i c => { c with id := (i : Int) }⟩
def insT (t : Tp) : List Tp → List Tp
  | [] => [t]
  | x :: r => if t.id < x.id then t :: x :: r else x :: insT t r
theorem ncolsE_all (l : List Cb) : ∀ (r : List Cb) (i : Nat), ncolsE l i r = 0 → ∀ (j : Nat) c, r[j]? = some c → ncolE l (i + j) c = 0
  | [], _, _, j, c, h => by simp at h
  | a :: r, i, h0, j, c, h => by
    rw [ncolsE] at h0
    by_cases e : ncolE l i a = 0
    · rw [if_pos e] at h0
      cases j with
      | zero => simp at h; subst h; exact e
      | succ j =>
        have := ncolsE_all l r (i + 1) h0 j c (by simpa using h)
        rw [show i + (j + 1) = i + 1 + j by omega]; exact this
    · rw [if_neg e] at h0; exact absurd h0 e
theorem ncolE_0 {l : List Cb} {i : Nat} {c : Cb} (h : ncolE l i c = 0) : rightN (bs c.nm) = true ∧ (∀ j y, j < i → l[j]? = some y → y.nm ≠ c.nm) ∧ rightT c.tk c.tm = true ∧ presetD c.tk c.tm c.dk c.dn c.ds = true := by
  unfold ncolE at h
  by_cases h1 : rightN (bs c.nm) = true
  · rw [if_pos h1] at h
    by_cases h2 : ((l.take i).findIdx? fun y => eqS y.nm c.nm).isSome = true
    · rw [if_pos h2] at h; cases h
    rw [if_neg h2] at h
    by_cases h3 : rightT c.tk c.tm = true
    · rw [if_pos h3] at h
      by_cases h4 : presetD c.tk c.tm c.dk c.dn c.ds = true
      · refine ⟨h1, fun j y hj hy e => h2 ?_, h3, h4⟩
        cases hf : (l.take i).findIdx? fun y => eqS y.nm c.nm with
        | some q => rfl
        | none =>
          rw [List.findIdx?_eq_none_iff] at hf
          have := hf y (List.mem_of_getElem? (i := j) (by rw [List.getElem?_take]; simp [hj, hy]))
          rw [eqS_iff.2 e] at this; cases this
      · rw [if_neg h4] at h; cases h
    · rw [if_neg h3] at h; cases h
  · rw [if_neg h1] at h; cases h
/-- what is known where a table may be made -/
theorem createE_0 {l : List Tp} {d : Dp} {id : Int} (h : createE l d id = 0) : rightN (bs d.tb) = true ∧ (∀ t ∈ l, t.nm ≠ d.tb) ∧ l.length < 6 ∧ (∀ t ∈ l, t.id ≠ id) ∧ 1 ≤ d.cols.length ∧ d.cols.length ≤ 10 ∧
    (∀ (j : Nat) c, d.cols[j]? = some c → ncolE d.cols j c = 0) ∧ ∃ (k : Nat) (c : Cb), colP d.cols d.key = some k ∧ d.cols[k]? = some c ∧ c.nl = false := by
  unfold createE at h
  by_cases h1 : rightN (bs d.tb) = true
  · rw [if_pos h1] at h
    by_cases h2 : (findT l d.tb).isSome = true
    · rw [if_pos h2] at h; cases h
    rw [if_neg h2] at h
    by_cases h3 : 6 ≤ l.length
    · rw [if_pos h3] at h; cases h
    rw [if_neg h3] at h
    by_cases h4 : (l.findIdx? fun t => t.id == id).isSome = true
    · rw [if_pos h4] at h; cases h
    rw [if_neg h4] at h
    by_cases h5 : d.cols.length = 0
    · rw [if_pos h5] at h; cases h
    rw [if_neg h5] at h
    by_cases h6 : 10 < d.cols.length
    · rw [if_pos h6] at h; cases h
    rw [if_neg h6] at h
    by_cases h7 : ncolsE d.cols 0 d.cols = 0
    · rw [if_pos h7] at h
      refine ⟨h1, fun t ht e => h2 ?_, by omega, fun t ht e => h4 ?_, by omega, by omega, fun j c hj => ?_, ?_⟩
      · unfold findT
        cases hf : l.findIdx? fun t => eqS t.nm d.tb with
        | some q => rfl
        | none =>
          rw [List.findIdx?_eq_none_iff] at hf
          have := hf t ht
          rw [eqS_iff.2 e] at this; cases this
      · cases hf : l.findIdx? fun t => t.id == id with
        | some q => rfl
        | none =>
          rw [List.findIdx?_eq_none_iff] at hf
          have := hf t ht
          rw [e] at this; simp at this
      · have := ncolsE_all d.cols d.cols 0 h7 j c hj
        rwa [Nat.zero_add] at this
      · cases hk : colP d.cols d.key with
        | none => rw [hk] at h; cases h
        | some k =>
          rw [hk] at h
          obtain ⟨c, hc⟩ : ∃ c, d.cols[k]? = some c := by
            have := find_lt hk
            exact ⟨d.cols[k], by simp [this]⟩
          refine ⟨k, c, rfl, hc, ?_⟩
          simp only [Option.bind_some, hc] at h
          cases hn : c.nl with
          | false => rfl
          | true => rw [hn] at h; cases h
    · rw [if_neg h7] at h; exact absurd h h7
  · rw [if_neg h1] at h; cases h
theorem madeT_right {l : List Tp} {d : Dp} {id : Int} (h0 : 0 ≤ id) (h : createE l d id = 0) : RightT (madeT d id) := by
  obtain ⟨h1, _, _, _, h5, h6, h7, k, c, hk, hc, hn⟩ := createE_0 h
  have hg : ∀ (j : Nat) x, (d.cols.mapIdx fun i c => ({ c with id := (i : Int) } : Cb))[j]? = some x → ∃ y, d.cols[j]? = some y ∧ x = { y with id := (j : Int) } := fun j x hx => by
    rw [List.getElem?_mapIdx] at hx
    cases hy : d.cols[j]? with
    | none => rw [hy] at hx; cases hx
    | some y => rw [hy] at hx; exact ⟨y, rfl, (Option.some.inj hx).symm⟩
  have hl : ∀ (j : Nat) y, d.cols[j]? = some y → j < d.cols.length := fun j y hy => (List.getElem?_eq_some_iff.1 hy).1
  refine ⟨h0, h1, by show (d.cols.length : Int) ≤ 200; omega, by show 1 ≤ (d.cols.mapIdx _).length; rw [List.length_mapIdx]; exact h5, by show (d.cols.mapIdx _).length ≤ 10; rw [List.length_mapIdx]; exact h6, fun x hx => ?_, ?_, ?_⟩
  · obtain ⟨j, hj⟩ := List.mem_iff_getElem?.1 hx
    obtain ⟨y, hy, rfl⟩ := hg j x hj
    obtain ⟨a1, _, a3, a4⟩ := ncolE_0 (h7 j y hy)
    have := hl j y hy
    exact ⟨(rightC_iff _).2 ⟨by show (0 : Int) ≤ (j : Int); omega, by show (j : Int) < 200; omega, a1, a3, a4⟩, by show (j : Int) < (d.cols.length : Int); omega⟩
  · show (d.cols.mapIdx _).Pairwise _
    rw [List.pairwise_iff_getElem]
    intro i j hi hj hij
    obtain ⟨y, hy, ey⟩ := hg i _ (List.getElem?_eq_getElem hi)
    obtain ⟨z, hz, ez⟩ := hg j _ (List.getElem?_eq_getElem hj)
    rw [ey, ez]
    exact ⟨by show (i : Int) < (j : Int); omega, (ncolE_0 (h7 j z hz)).2.1 i y hij hy⟩
  · refine ⟨{ c with id := (k : Int) }, ?_, ?_, hn⟩
    · refine List.mem_of_getElem? (i := k) ?_
      show (d.cols.mapIdx _)[k]? = _
      rw [List.getElem?_mapIdx, hc]; rfl
    · show (k : Int) = (((colP d.cols d.key).getD 0 : Nat) : Int)
      rw [hk]; rfl
theorem mem_insT {t x : Tp} : ∀ {l : List Tp}, x ∈ insT t l ↔ x = t ∨ x ∈ l
  | [] => by simp [insT]
  | y :: r => by
    unfold insT
    split
    · simp
    · simp only [List.mem_cons, mem_insT (l := r)]
      constructor
      · rintro (h | h | h)
        · exact .inr (.inl h)
        · exact .inl h
        · exact .inr (.inr h)
      · rintro (h | h | h)
        · exact .inr (.inl h)
        · exact .inl h
        · exact .inr (.inr h)
theorem length_insT (t : Tp) : ∀ l : List Tp, (insT t l).length = l.length + 1
  | [] => rfl
  | y :: r => by
    unfold insT
    split
    · rfl
    · simp [length_insT t r]
theorem insT_apart {t : Tp} : ∀ {l : List Tp}, l.Pairwise (Apart Tp.id Tp.nm) → (∀ x ∈ l, x.id ≠ t.id ∧ x.nm ≠ t.nm) → (insT t l).Pairwise (Apart Tp.id Tp.nm)
  | [], _, _ => List.pairwise_singleton _ _
  | y :: r, hp, h => by
    rw [List.pairwise_cons] at hp
    unfold insT
    split
    · rename_i hlt
      rw [List.pairwise_cons, List.pairwise_cons]
      refine ⟨fun x hx => ?_, hp.1, hp.2⟩
      have hx' := (h x hx).2
      rcases List.mem_cons.1 hx with rfl | hx
      · exact ⟨hlt, fun e => hx' e.symm⟩
      · exact ⟨Int.lt_trans hlt (hp.1 x hx).1, fun e => hx' e.symm⟩
    · rename_i hge
      rw [List.pairwise_cons]
      refine ⟨fun x hx => ?_, insT_apart hp.2 fun x hx => h x (List.mem_cons_of_mem _ hx)⟩
      rcases mem_insT.1 hx with rfl | hx
      · have := h y List.mem_cons_self
        exact ⟨by have := this.1; omega, this.2⟩
      · exact hp.1 x hx
/-! ### The catalog behind a change -/
noncomputable def applyE (l : List Tp) (d : Dp) (id : Int) : Int :=
  if tf (RightL l) = true ∧ plainD d = true ∧ 0 ≤ id then (if d.op = 1 then createE l d id else match (findT l d.tb).bind fun k => l[k]? with
    | none => 12
    | some t => wrongE l t d)
  else 2
def applyR (l : List Tp) (d : Dp) (id : Int) : List Tp :=
  if d.op = 1 then insT (madeT d id) l else match findT l d.tb with
    | none => l
    | some k => if d.op = 2 then l.eraseIdx k else match l[k]? with
      | none => l
      | some t => l.set k (tableD t d)
theorem plainD_op {d : Dp} (h : plainD d = true) : 1 ≤ d.op ∧ d.op ≤ 8 := by
  unfold plainD at h
  by_cases e : d.op = 1 ∨ d.op = 2 ∨ d.op = 3 ∨ d.op = 4 ∨ d.op = 5 ∨ d.op = 6 ∨ d.op = 7 ∨ d.op = 8
  · omega
  · rw [if_neg (by omega), if_neg (by omega), if_neg (by omega), if_neg (by omega), if_neg (by omega), if_neg (by omega), if_neg (by omega), if_neg (by omega)] at h
    cases h
theorem findT_some {l : List Tp} {s : ByteArray} {k : Nat} (h : findT l s = some k) : ∃ t, l[k]? = some t ∧ t.nm = s := by
  obtain ⟨t, h1, h2, _⟩ := find_some h
  exact ⟨t, h1, eqS_iff.1 h2⟩
theorem findT_none {l : List Tp} {s : ByteArray} (h : (findT l s).isSome ≠ true) : ∀ t ∈ l, t.nm ≠ s := fun t ht e => by
  unfold findT at h
  cases hf : l.findIdx? fun t => eqS t.nm s with
  | some k => rw [hf] at h; exact h rfl
  | none =>
    rw [List.findIdx?_eq_none_iff] at hf
    have := hf t ht
    rw [eqS_iff.2 e] at this; cases this
/-- another table in a table's place, of the same number and of a name that no other has -/
theorem set_apart {l : List Tp} {k : Nat} {t u : Tp} (hp : l.Pairwise (Apart Tp.id Tp.nm)) (hk : l[k]? = some t) (hid : u.id = t.id) (hnm : ∀ (j : Nat) x, j ≠ k → l[j]? = some x → x.nm ≠ u.nm) : (l.set k u).Pairwise (Apart Tp.id Tp.nm) := by
  rw [List.pairwise_iff_getElem] at hp ⊢
  obtain ⟨hkl, rfl⟩ := List.getElem?_eq_some_iff.1 hk
  intro i j hi hj hij
  rw [List.length_set] at hi hj
  rw [List.getElem_set, List.getElem_set]
  by_cases e1 : k = i
  · subst e1
    rw [if_pos rfl, if_neg (by omega)]
    exact ⟨by rw [hid]; exact (hp k j hi hj hij).1, fun e => hnm j l[j] (by omega) (by simp [hj]) e.symm⟩
  · rw [if_neg e1]
    by_cases e2 : k = j
    · subst e2
      rw [if_pos rfl]
      exact ⟨by rw [hid]; exact (hp i k hi hj hij).1, hnm i l[i] (by omega) (by simp [hi])⟩
    · rw [if_neg e2]
      exact hp i j hi hj hij
/-- the changed catalog is right -/
theorem apply_right {l : List Tp} {d : Dp} {id : Int} (h64 : ∀ t ∈ l, W64 t.cols) (h : applyE l d id = 0) : RightL (applyR l d id) := by
  unfold applyE at h
  by_cases hc : tf (RightL l) = true ∧ plainD d = true ∧ 0 ≤ id
  · rw [if_pos hc] at h
    obtain ⟨hR, hP, hI⟩ := hc
    obtain ⟨r1, r2, r3⟩ := tf_iff.1 hR
    have hop := plainD_op hP
    by_cases e1 : d.op = 1
    · rw [if_pos e1] at h
      have hm := madeT_right hI h
      obtain ⟨_, c2, c3, c4, _⟩ := createE_0 h
      unfold applyR
      rw [if_pos e1]
      refine ⟨by rw [length_insT]; omega, fun t ht => ?_, insT_apart r3 fun x hx => ⟨c4 x hx, c2 x hx⟩⟩
      rcases mem_insT.1 ht with rfl | ht
      · exact hm
      · exact r2 t ht
    · rw [if_neg e1] at h
      unfold applyR
      rw [if_neg e1]
      cases hf : findT l d.tb with
      | none => rw [hf] at h; cases h
      | some k =>
        obtain ⟨t, ht, hn⟩ := findT_some hf
        rw [hf] at h
        simp only [Option.bind_some, ht] at h
        have htm := List.mem_of_getElem? ht
        by_cases e2 : d.op = 2
        · simp only [e2, if_pos]
          exact ⟨Nat.le_trans (List.length_eraseIdx_le l k) r1, fun x hx => r2 x (List.mem_of_mem_eraseIdx hx), r3.sublist (List.eraseIdx_sublist l k)⟩
        · simp only [ht, if_neg e2]
          have hT := tableD_right (r2 t htm) (h64 t htm) ⟨e1, e2, hop.1, hop.2⟩ h
          refine ⟨by rw [List.length_set]; exact r1, fun x hx => ?_, set_apart r3 ht rfl fun j x hj hx => ?_⟩
          · rcases List.mem_or_eq_of_mem_set hx with hx | rfl
            · exact r2 x hx
            · exact hT
          · show x.nm ≠ (if d.op = 3 then d.to else t.nm)
            by_cases e3 : d.op = 3
            · rw [if_pos e3]
              refine findT_none (l := l) (fun hs => ?_) x (List.mem_of_getElem? hx)
              unfold wrongE at h
              rw [if_neg e2, if_pos e3] at h
              split at h
              · cases h
              · cases h
            · rw [if_neg e3]
              rw [List.pairwise_iff_getElem] at r3
              obtain ⟨h1, rfl⟩ := List.getElem?_eq_some_iff.1 hx
              obtain ⟨h2, rfl⟩ := List.getElem?_eq_some_iff.1 ht
              rcases Nat.lt_or_gt_of_ne hj with e | e
              · exact (r3 j k h1 h2 e).2
              · exact fun q => (r3 k j h2 h1 e).2 q.symm
  · rw [if_neg hc] at h; cases h
end Go.Proofs.YtebldfnocpcddaaGreatDoor

/-
  What a change does to a catalog, by its members (layer 9): changes of unlike names in either order, tables that stay, numbers of columns that are kept.
-/
namespace Go.Proofs.YtebldfnocpcddaaGreatDoor

/-- in a list of unlike names, of unlike numbers, two of one name, of one number are one -/
theorem tp_nm {l : List Tp} (hp : l.Pairwise (Apart Tp.id Tp.nm)) {a b : Tp} (ha : a ∈ l) (hb : b ∈ l) (h : a.nm = b.nm) : a = b := by
  obtain ⟨i, hi⟩ := List.mem_iff_getElem?.1 ha
  obtain ⟨j, hj⟩ := List.mem_iff_getElem?.1 hb
  obtain ⟨h1, rfl⟩ := List.getElem?_eq_some_iff.1 hi
  obtain ⟨h2, rfl⟩ := List.getElem?_eq_some_iff.1 hj
  rw [List.pairwise_iff_getElem] at hp
  rcases Nat.lt_trichotomy i j with e | e | e
  · exact absurd h (hp i j h1 h2 e).2
  · subst e; rfl
  · exact absurd h.symm (hp j i h2 h1 e).2
theorem tp_id {l : List Tp} (hp : l.Pairwise (Apart Tp.id Tp.nm)) {a b : Tp} (ha : a ∈ l) (hb : b ∈ l) (h : a.id = b.id) : a = b := by
  obtain ⟨i, hi⟩ := List.mem_iff_getElem?.1 ha
  obtain ⟨j, hj⟩ := List.mem_iff_getElem?.1 hb
  obtain ⟨h1, rfl⟩ := List.getElem?_eq_some_iff.1 hi
  obtain ⟨h2, rfl⟩ := List.getElem?_eq_some_iff.1 hj
  rw [List.pairwise_iff_getElem] at hp
  rcases Nat.lt_trichotomy i j with e | e | e
  · have := (hp i j h1 h2 e).1; omega
  · subst e; rfl
  · have := (hp j i h2 h1 e).1; omega
/-- lists whose numbers increase are their members -/
theorem sorted_ext : ∀ {l m : List Tp}, l.Pairwise (Apart Tp.id Tp.nm) → m.Pairwise (Apart Tp.id Tp.nm) → (∀ x, x ∈ l ↔ x ∈ m) → l = m
  | [], [], _, _, _ => rfl
  | [], y :: m, _, _, h => by have := (h y).2 List.mem_cons_self; cases this
  | x :: l, [], _, _, h => by have := (h x).1 List.mem_cons_self; cases this
  | x :: l, y :: m, hl, hm, h => by
    rw [List.pairwise_cons] at hl hm
    have e : x = y := by
      rcases List.mem_cons.1 ((h x).1 List.mem_cons_self) with e | hx
      · exact e
      · rcases List.mem_cons.1 ((h y).2 List.mem_cons_self) with e | hy
        · exact e.symm
        · have := (hm.1 x hx).1; have := (hl.1 y hy).1; omega
    subst e
    congr 1
    refine sorted_ext hl.2 hm.2 fun z => ⟨fun hz => ?_, fun hz => ?_⟩
    · rcases List.mem_cons.1 ((h z).1 (List.mem_cons_of_mem _ hz)) with e | hz'
      · subst e; have := (hl.1 z hz).1; omega
      · exact hz'
    · rcases List.mem_cons.1 ((h z).2 (List.mem_cons_of_mem _ hz)) with e | hz'
      · subst e; have := (hm.1 z hz).1; omega
      · exact hz'
/-- a table that a change makes, or makes of one that was there -/
def NewT (l : List Tp) (d : Dp) (id : Int) (x : Tp) : Prop := (d.op = 1 ∧ x = madeT d id) ∨ (d.op ≠ 1 ∧ d.op ≠ 2 ∧ ∃ t ∈ l, t.nm = d.tb ∧ x = tableD t d)
theorem newT_nm {l : List Tp} {d : Dp} {id : Int} {x : Tp} (h : NewT l d id x) : x.nm = d.tb ∨ (d.op = 3 ∧ x.nm = d.to) := by
  rcases h with ⟨_, rfl⟩ | ⟨_, _, t, _, hn, rfl⟩
  · exact .inl rfl
  · show (if d.op = 3 then d.to else t.nm) = d.tb ∨ _
    by_cases e : d.op = 3
    · right; exact ⟨e, by show (if d.op = 3 then d.to else t.nm) = d.to; rw [if_pos e]⟩
    · left; rw [if_neg e, hn]
/-- what is known where a change may be done -/
theorem applyE_0 {l : List Tp} {d : Dp} {id : Int} (h : applyE l d id = 0) : RightL l ∧ plainD d = true ∧ 0 ≤ id ∧
    ((d.op = 1 ∧ createE l d id = 0) ∨ (d.op ≠ 1 ∧ ∃ k t, findT l d.tb = some k ∧ l[k]? = some t ∧ t.nm = d.tb ∧ wrongE l t d = 0)) := by
  unfold applyE at h
  by_cases hc : tf (RightL l) = true ∧ plainD d = true ∧ 0 ≤ id
  · rw [if_pos hc] at h
    refine ⟨tf_iff.1 hc.1, hc.2.1, hc.2.2, ?_⟩
    by_cases e : d.op = 1
    · rw [if_pos e] at h; exact .inl ⟨e, h⟩
    · rw [if_neg e] at h
      right
      refine ⟨e, ?_⟩
      cases hf : findT l d.tb with
      | none => rw [hf] at h; cases h
      | some k =>
        obtain ⟨t, ht, hn⟩ := findT_some hf
        rw [hf] at h
        simp only [Option.bind_some, ht] at h
        exact ⟨k, t, rfl, ht, hn, h⟩
  · rw [if_neg hc] at h; cases h
theorem mem_apply {l : List Tp} {d : Dp} {id : Int} (h : applyE l d id = 0) (x : Tp) : x ∈ applyR l d id ↔ (x ∈ l ∧ x.nm ≠ d.tb) ∨ NewT l d id x := by
  obtain ⟨⟨_, _, hp⟩, _, _, h⟩ := applyE_0 h
  unfold applyR NewT
  rcases h with ⟨e, hc⟩ | ⟨e, k, t, hf, ht, hn, _⟩
  · rw [if_pos e, mem_insT]
    have := (createE_0 hc).2.1
    constructor
    · rintro (h | h)
      · exact .inr (.inl ⟨e, h⟩)
      · exact .inl ⟨h, this x h⟩
    · rintro (h | h | h)
      · exact .inr h.1
      · exact .inl h.2
      · exact absurd e h.1
  · rw [if_neg e, hf]
    have htm := List.mem_of_getElem? ht
    obtain ⟨hkl, hkt⟩ := List.getElem?_eq_some_iff.1 ht
    by_cases e2 : d.op = 2
    · simp only [e2, if_pos]
      rw [List.mem_eraseIdx_iff_getElem?]
      constructor
      · rintro ⟨j, hj, hx⟩
        left
        refine ⟨List.mem_of_getElem? hx, fun q => hj ?_⟩
        obtain ⟨h1, rfl⟩ := List.getElem?_eq_some_iff.1 hx
        rw [List.pairwise_iff_getElem] at hp
        rcases Nat.lt_trichotomy j k with c | c | c
        · exact absurd (q.trans (hkt ▸ hn).symm) (hp j k h1 hkl c).2
        · exact c
        · exact absurd ((hkt ▸ hn).trans q.symm) (hp k j hkl h1 c).2
      · rintro (⟨h1, h2⟩ | ⟨h1, _⟩ | ⟨_, h2, _⟩)
        · obtain ⟨j, hj⟩ := List.mem_iff_getElem?.1 h1
          refine ⟨j, fun c => ?_, hj⟩
          subst c
          rw [ht] at hj; cases hj
          exact h2 hn
        · omega
        · omega
    · simp only [ht, if_neg e2]
      constructor
      · intro hx
        rcases List.mem_iff_getElem?.1 hx with ⟨j, hj⟩
        rw [List.getElem?_set] at hj
        split at hj
        · right; right
          exact ⟨e, e2, t, htm, hn, (Option.some.inj hj).symm⟩
        · rename_i c
          left
          refine ⟨List.mem_of_getElem? hj, fun q => c ?_⟩
          obtain ⟨h1, rfl⟩ := List.getElem?_eq_some_iff.1 hj
          rw [List.pairwise_iff_getElem] at hp
          rcases Nat.lt_trichotomy k j with w | w | w
          · exact absurd ((hkt ▸ hn).trans q.symm) (hp k j hkl h1 w).2
          · exact w
          · exact absurd (q.trans (hkt ▸ hn).symm) (hp j k h1 hkl w).2
      · rintro (⟨h1, h2⟩ | ⟨h1, _⟩ | ⟨_, _, u, hu, hun, rfl⟩)
        · obtain ⟨j, hj⟩ := List.mem_iff_getElem?.1 h1
          refine List.mem_of_getElem? (i := j) ?_
          rw [List.getElem?_set_ne (fun c => h2 ?_)]
          · exact hj
          · subst c
            rw [ht] at hj; cases hj
            exact hn
        · exact absurd h1 e
        · have : u = t := tp_nm hp hu htm (hun.trans hn.symm)
          subst this
          exact List.mem_of_getElem? (i := k) (by rw [List.getElem?_set_self hkl])
/-- the names that a change touches -/
def Touches (d : Dp) (s : ByteArray) : Prop := s = d.tb ∨ (d.op = 3 ∧ s = d.to)
/-- two changes of unlike names, in either order -/
theorem apply_comm {l : List Tp} {a b : Dp} {i j : Int} (h64 : ∀ t ∈ l, W64 t.cols) (h64a : ∀ t ∈ applyR l a i, W64 t.cols) (h64b : ∀ t ∈ applyR l b j, W64 t.cols) (hd : ∀ s, Touches a s → ¬ Touches b s)
    (ha : applyE l a i = 0) (hb : applyE l b j = 0) (hab : applyE (applyR l a i) b j = 0) (hba : applyE (applyR l b j) a i = 0) :
    applyR (applyR l a i) b j = applyR (applyR l b j) a i := by
  have _ := h64
  refine sorted_ext (apply_right h64a hab).2.2 (apply_right h64b hba).2.2 fun x => ?_
  have hne : a.tb ≠ b.tb := fun e => hd a.tb (.inl rfl) (.inl e)
  have new_ne : ∀ {x}, NewT l a i x → x.nm ≠ b.tb := fun {x} h e => by
    rcases newT_nm h with q | ⟨q1, q2⟩
    · exact hne (q.symm.trans e)
    · exact hd a.to (.inr ⟨q1, rfl⟩) (.inl (q2.symm.trans e))
  have new_ne' : ∀ {x}, NewT l b j x → x.nm ≠ a.tb := fun {x} h e => by
    rcases newT_nm h with q | ⟨q1, q2⟩
    · exact hne (e.symm.trans q)
    · exact hd a.tb (.inl rfl) (.inr ⟨q1, e.symm.trans q2⟩)
  have n1 : NewT (applyR l a i) b j x ↔ NewT l b j x := by
    unfold NewT
    constructor
    · rintro (h | ⟨o1, o2, t, ht, hn, rfl⟩)
      · exact .inl h
      · rcases (mem_apply ha t).1 ht with ⟨h1, _⟩ | h1
        · exact .inr ⟨o1, o2, t, h1, hn, rfl⟩
        · exact absurd hn (new_ne h1)
    · rintro (h | ⟨o1, o2, t, ht, hn, rfl⟩)
      · exact .inl h
      · exact .inr ⟨o1, o2, t, (mem_apply ha t).2 (.inl ⟨ht, fun e => hne (e.symm.trans hn)⟩), hn, rfl⟩
  have n2 : NewT (applyR l b j) a i x ↔ NewT l a i x := by
    unfold NewT
    constructor
    · rintro (h | ⟨o1, o2, t, ht, hn, rfl⟩)
      · exact .inl h
      · rcases (mem_apply hb t).1 ht with ⟨h1, _⟩ | h1
        · exact .inr ⟨o1, o2, t, h1, hn, rfl⟩
        · exact absurd hn (new_ne' h1)
    · rintro (h | ⟨o1, o2, t, ht, hn, rfl⟩)
      · exact .inl h
      · exact .inr ⟨o1, o2, t, (mem_apply hb t).2 (.inl ⟨ht, fun e => hne (hn.symm.trans e)⟩), hn, rfl⟩
  rw [mem_apply hab, mem_apply hba, n1, n2, mem_apply ha, mem_apply hb]
  constructor
  · rintro (⟨⟨h1, h2⟩ | h1, h3⟩ | h1)
    · exact .inl ⟨.inl ⟨h1, h3⟩, h2⟩
    · exact .inr h1
    · exact .inl ⟨.inr h1, new_ne' h1⟩
  · rintro (⟨⟨h1, h2⟩ | h1, h3⟩ | h1)
    · exact .inl ⟨.inl ⟨h1, h3⟩, h2⟩
    · exact .inr h1
    · exact .inl ⟨.inr h1, new_ne h1⟩
/-- a table of another name stays -/
theorem apply_stays {l : List Tp} {d : Dp} {id : Int} (h : applyE l d id = 0) {t : Tp} (ht : t ∈ l) (hn : t.nm ≠ d.tb) : t ∈ applyR l d id := (mem_apply h t).2 (.inl ⟨ht, hn⟩)
/-- what a change makes of a table of a number: Next never falls, no column gets a number that none has, and but by DCall no column another name -/
theorem apply_keeps {l : List Tp} {d : Dp} {id : Int} (h : applyE l d id = 0) {t u : Tp} (ht : t ∈ l) (hu : u ∈ applyR l d id) (hid : u.id = t.id) :
    t.nx ≤ u.nx ∧ u.key = t.key ∧ ∀ c ∈ u.cols, c.id < t.nx → ∃ c' ∈ t.cols, c'.id = c.id ∧ (d.op ≠ 6 → c'.nm = c.nm) := by
  obtain ⟨⟨_, _, hp⟩, _, _, hc⟩ := applyE_0 h
  rcases (mem_apply h u).1 hu with ⟨h1, _⟩ | h1
  · have := tp_id hp h1 ht hid
    subst this
    exact ⟨Int.le_refl _, rfl, fun c hc _ => ⟨c, hc, rfl, fun _ => rfl⟩⟩
  · rcases h1 with ⟨e, rfl⟩ | ⟨e1, e2, t', ht', hn', rfl⟩
    · rcases hc with ⟨_, hc⟩ | ⟨e', _⟩
      · exact absurd hid.symm ((createE_0 hc).2.2.2.1 t ht)
      · exact absurd e e'
    · have : t' = t := tp_id hp ht' ht hid
      subst this
      refine ⟨?_, rfl, fun c hc hlt => ?_⟩
      · show t'.nx ≤ (if d.op = 4 then t'.nx + 1 else t'.nx)
        split <;> omega
      · have hc' : c ∈ colsD t' d := hc
        unfold colsD at hc'
        by_cases e4 : d.op = 4
        · rw [if_pos e4] at hc'
          rcases List.mem_append.1 hc' with q | q
          · exact ⟨c, q, rfl, fun _ => rfl⟩
          · obtain rfl : c = ⟨t'.nx, d.co, d.tk, d.tm, d.nl, d.dk, d.dn, d.ds⟩ := by simpa using q
            exact absurd hlt (by show ¬ t'.nx < t'.nx; omega)
        rw [if_neg e4] at hc'
        by_cases e5 : d.op = 5
        · rw [if_pos e5] at hc'
          exact ⟨c, (List.mem_filter.1 hc').1, rfl, fun _ => rfl⟩
        rw [if_neg e5] at hc'
        by_cases e6 : d.op = 6
        · rw [if_pos e6] at hc'
          obtain ⟨y, hy, rfl⟩ := List.mem_map.1 hc'
          exact ⟨y, hy, by split <;> rfl, fun q => absurd e6 q⟩
        rw [if_neg e6] at hc'
        by_cases e7 : d.op = 7
        · rw [if_pos e7] at hc'
          obtain ⟨y, hy, rfl⟩ := List.mem_map.1 hc'
          refine ⟨y, hy, ?_, fun _ => ?_⟩
          · unfold castC; split <;> (try split) <;> rfl
          · unfold castC; split <;> (try split) <;> rfl
        rw [if_neg e7] at hc'
        by_cases e8 : d.op = 8
        · rw [if_pos e8] at hc'
          obtain ⟨y, hy, rfl⟩ := List.mem_map.1 hc'
          exact ⟨y, hy, by split <;> rfl, fun _ => by split <;> rfl⟩
        rw [if_neg e8] at hc'
        exact ⟨c, hc', rfl, fun _ => rfl⟩
/-- numbers stay numbers of 64 bits -/
theorem apply_w64 {l : List Tp} {d : Dp} {id : Int} (h64 : ∀ t ∈ l, W64 t.cols) (hd : -9223372036854775808 ≤ d.dn ∧ d.dn < 9223372036854775808) (hc : W64 d.cols) (h : applyE l d id = 0) : ∀ t ∈ applyR l d id, W64 t.cols := fun t ht => by
  rcases (mem_apply h t).1 ht with ⟨h1, _⟩ | h1
  · exact h64 t h1
  · rcases h1 with ⟨_, rfl⟩ | ⟨_, _, u, hu, _, rfl⟩
    · intro c hcm
      have hcm' : c ∈ d.cols.mapIdx fun i c => ({ c with id := (i : Int) } : Cb) := hcm
      obtain ⟨i, hi⟩ := List.mem_iff_getElem?.1 hcm'
      rw [List.getElem?_mapIdx] at hi
      cases hy : d.cols[i]? with
      | none => rw [hy] at hi; cases hi
      | some y =>
        rw [hy] at hi
        have e := (Option.some.inj hi).symm
        rw [e]
        exact hc y (List.mem_of_getElem? hy)
    · have hu64 := h64 u hu
      intro c hcm
      have hcm' : c ∈ colsD u d := hcm
      unfold colsD at hcm'
      split at hcm'
      · rcases List.mem_append.1 hcm' with q | q
        · exact hu64 c q
        · obtain rfl : c = ⟨u.nx, d.co, d.tk, d.tm, d.nl, d.dk, d.dn, d.ds⟩ := by simpa using q
          exact hd
      split at hcm'
      · exact hu64 c (List.mem_filter.1 hcm').1
      split at hcm'
      · obtain ⟨y, hy, rfl⟩ := List.mem_map.1 hcm'
        have := hu64 y hy
        split <;> exact this
      split at hcm'
      · obtain ⟨y, hy, rfl⟩ := List.mem_map.1 hcm'
        have := hu64 y hy
        split
        · unfold castC
          split
          · exact ⟨by show (-9223372036854775808 : Int) ≤ 0; omega, by show (0 : Int) < 9223372036854775808; omega⟩
          · show -9223372036854775808 ≤ cN d.tk y.dn ∧ cN d.tk y.dn < 9223372036854775808
            unfold cN
            cases numK d.tk
            · exact ⟨by show (-9223372036854775808 : Int) ≤ 0; omega, by show (0 : Int) < 9223372036854775808; omega⟩
            · exact this
        · exact this
      split at hcm'
      · obtain ⟨y, hy, rfl⟩ := List.mem_map.1 hcm'
        have := hu64 y hy
        split
        · exact hd
        · exact this
      · exact hu64 c hcm'
/-- the changes one behind the other: the catalog, how many were done, the error -/
noncomputable def allD (l : List Tp) (first : Int) : Nat → List Dp → List Tp × Nat × Int
  | i, [] => (l, i, 0)
  | i, d :: r => if 9223372036854775807 - (i : Int) < first then ([], i, 2) else if applyE l d (first + i) = 0 then allD (applyR l d (first + i)) first (i + 1) r else ([], i, applyE l d (first + i))
end Go.Proofs.YtebldfnocpcddaaGreatDoor
