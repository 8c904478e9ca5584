/-
  Texts that the proof needs, one behind the other: SchMath, SchRows, SchOwn, SchFirstC, SchFindC, SchOpen, SchRefC, SchColC, SchSameC, SchSame2C, SchFewC, SchAllC, SchDistC, SchTabC, SchTab2C.
-/
import Derived.ChangeArms
import Derived.Laws.OwnMore
import Derived.Shelf.Abstract
import Derived.Test.YtebldfnocpcddaaGreatDoorPart6
import Derived.Test.YtebldfnocpcddaaGreatDoorPart7
import Derived.Test.YtebldfnocpcddaaGreatDoorPart1
import Derived.Test.YtebldfnocpcddaaGreatDoorPart4

/-
  Columns, tables, fields and rows of package schema in plain words: which are right, what is found, what a row's error is.
-/
namespace Go.Proofs.YtebldfnocpcddaaGreatDoor
open Go.RowKit

/-- are two strings the same? -/
abbrev eqS (a b : ByteArray) : Bool := a.toList == b.toList
theorem eqS_iff {a b : ByteArray} : eqS a b = true ↔ a = b := by
  constructor
  · intro h
    have h' : a.toList = b.toList := by simpa [eqS] using h
    rw [ByteArray.toList_eq, ByteArray.toList_eq] at h'
    exact bs_eq h'
  · rintro rfl; simp [eqS]
theorem eqS_self (a : ByteArray) : eqS a a = true := eqS_iff.2 rfl
theorem eqS_comm (a b : ByteArray) : eqS a b = eqS b a := by
  apply bool_eq
  rw [eqS_iff, eqS_iff]
  exact ⟨Eq.symm, Eq.symm⟩
/-- a column, a table, a field -/
structure Cb where
  id : Int
  nm : ByteArray
  tk : Int
  tm : Int
  nl : Bool
  dk : Int
  dn : Int
  ds : ByteArray
structure Tb where
  id : Int
  nm : ByteArray
  key : Int
  nx : Int
  A : Option Addr
  cap : Nat
  cols : List Cb
structure Fb where
  nm : ByteArray
  k : Int
  n : Int
  s : ByteArray
abbrev Cb.dv (c : Cb) : Vb := (c.dk, c.dn, c.ds)
abbrev Fb.v (f : Fb) : Vb := (f.k, f.n, f.s)
abbrev CV (c : Cb) : Value := .agg #[.int .i64 c.id, .string c.nm, .int .i64 c.tk, .int .i64 c.tm, .bool c.nl, .int .i64 c.dk, .int .i64 c.dn, .string c.ds]
abbrev TV (t : Tb) : Value := .agg #[.int .i64 t.id, .string t.nm, .int .i64 t.key, .int .i64 t.nx, .slice t.A t.cols.length t.cap]
abbrev FV (f : Fb) : Value := .agg #[.string f.nm, .int .i64 f.k, .int .i64 f.n, .string f.s]
/-- is a value null? -/
def nulV (k n : Int) (s : ByteArray) : Bool := (k == 0) && ((n == 0) && eqS s ByteArray.empty)
def rightC (c : Cb) : Bool := decide (0 ≤ c.id) && (decide (c.id < 200) && (rightN (bs c.nm) && (rightT c.tk c.tm && (nulV c.dk c.dn c.ds || fitT c.tk c.tm c.dk c.dn c.ds))))
/-- what the sizes of a column, a table are -/
def WfC (c : Cb) : Prop := c.nm.size ≤ 1000000 ∧ -9223372036854775808 ≤ c.dn ∧ c.dn < 9223372036854775808
def WfT (t : Tb) : Prop := t.nm.size ≤ 1000000 ∧ t.cols.length ≤ 1000000 ∧ t.cols.length ≤ t.cap ∧ ∀ c ∈ t.cols, WfC c

/-! ### The first one -/
theorem find_at {α : Type} {p : α → Bool} {l : List α} {k : Nat} {y : α} (h : ∀ j x, l[j]? = some x → j < k → p x = false) (hy : l[k]? = some y) (hp : p y = true) : l.findIdx? p = some k := by
  induction l generalizing k with
  | nil => simp at hy
  | cons a r ih =>
    rw [List.findIdx?_cons]
    cases k with
    | zero => simp at hy; subst hy; simp [hp]
    | succ k =>
      have h0 := h 0 a rfl (by omega)
      rw [h0]
      have := ih (k := k) (fun j x hj hk => h (j + 1) x (by simpa using hj) (by omega)) (by simpa using hy)
      simp [this]
theorem find_no {α : Type} {p : α → Bool} {l : List α} (h : ∀ (j : Nat) x, l[j]? = some x → p x = false) : l.findIdx? p = none := by
  rw [List.findIdx?_eq_none_iff]
  intro x hx
  obtain ⟨j, hj⟩ := List.mem_iff_getElem?.1 hx
  exact h j x hj
theorem find_some {α : Type} {p : α → Bool} {l : List α} {k : Nat} (h : l.findIdx? p = some k) : ∃ y, l[k]? = some y ∧ p y = true ∧ ∀ j x, l[j]? = some x → j < k → p x = false := by
  rw [List.findIdx?_eq_some_iff_getElem] at h
  obtain ⟨h1, h2, h3⟩ := h
  refine ⟨l[k], by simp [h1], h2, fun j x hj hk => ?_⟩
  have := h3 j hk
  obtain ⟨hj1, rfl⟩ := List.getElem?_eq_some_iff.1 hj
  simpa using this
theorem find_lt {α : Type} {p : α → Bool} {l : List α} {k : Nat} (h : l.findIdx? p = some k) : k < l.length := by
  obtain ⟨y, h1, _⟩ := find_some h
  exact (List.getElem?_eq_some_iff.1 h1).1
/-- the pair that 'first' returns, the number that the document's own returns -/
def fstV (o : Option Nat) : Value := .tuple #[.int .i64 ((o.getD 0 : Nat) : Int), .bool o.isSome]
def idxI (o : Option Nat) : Int := match o with
  | some k => k
  | none => -1

/-! ### What holds at each place -/
theorem all_at {α : Type} {p : α → Bool} {l : List α} (h : ∀ (j : Nat) x, l[j]? = some x → p x = true) : l.all p = true := by
  rw [List.all_eq_true]
  intro x hx
  obtain ⟨j, hj⟩ := List.mem_iff_getElem?.1 hx
  exact h j x hj
theorem all_find {α : Type} (p : α → Bool) (l : List α) : (l.findIdx? fun x => !p x).isSome = !l.all p := by
  cases h : l.findIdx? fun x => !p x with
  | none =>
    rw [List.findIdx?_eq_none_iff] at h
    have : l.all p = true := List.all_eq_true.2 fun x hx => by simpa using h x hx
    simp [this]
  | some k =>
    obtain ⟨y, h1, h2, _⟩ := find_some h
    cases h3 : l.all p with
    | false => rfl
    | true =>
      rw [List.all_eq_true] at h3
      have := h3 y (List.mem_of_getElem? h1)
      rw [this] at h2; cases h2
/-- number and name of the element at a place are what they should be, against those before it -/
def OkAt {α : Type} (idf : α → Int) (nmf : α → ByteArray) (l : List α) (i : Nat) : Prop :=
  ∀ x, l[i]? = some x → (∀ y, 0 < i → l[i - 1]? = some y → idf y < idf x) ∧ ∀ j y, j < i → l[j]? = some y → nmf y ≠ nmf x
def Dist {α : Type} (idf : α → Int) (nmf : α → ByteArray) (l : List α) : Prop := ∀ i, i < l.length → OkAt idf nmf l i
noncomputable def tf (p : Prop) : Bool := @decide p (Classical.propDecidable p)
theorem tf_iff {p : Prop} : tf p = true ↔ p := by unfold tf; exact @decide_eq_true_iff p (Classical.propDecidable p)
theorem tf_yes {p : Prop} (h : p) : tf p = true := tf_iff.2 h
theorem tf_no {p : Prop} (h : ¬ p) : tf p = false := by
  cases e : tf p with
  | false => rfl
  | true => exact absurd (tf_iff.1 e) h
/-- numbers that increase are different -/
theorem dist_lt {α : Type} {idf : α → Int} {nmf : α → ByteArray} {l : List α} (h : Dist idf nmf l) : ∀ (d i : Nat) (x y : α), l[i]? = some x → l[i + d + 1]? = some y → idf x < idf y
  | 0, i, x, y, hx, hy => (h (i + 1) (List.getElem?_eq_some_iff.1 hy).1 y hy).1 x (by omega) (by simpa using hx)
  | d + 1, i, x, y, hx, hy => by
    have hl := (List.getElem?_eq_some_iff.1 hy).1
    obtain ⟨z, hz⟩ : ∃ z, l[i + d + 1]? = some z := ⟨l[i + d + 1]'(by omega), by simp [show i + d + 1 < l.length by omega]⟩
    have h1 := dist_lt h d i x z hx hz
    have h2 := (h (i + d + 2) (by omega) y (by rw [← hy]; congr 1)).1 z (by omega) (by rw [← hz]; congr 1)
    omega

/-! ### Tables -/
def keyOk (t : Tb) : Prop := ∃ i c, t.cols.findIdx? (fun c => c.id == t.key) = some i ∧ t.cols[i]? = some c ∧ c.nl = false
noncomputable def rightCols (t : Tb) : Bool := (t.cols.all fun c => rightC c && decide (c.id < t.nx)) && tf (Dist Cb.id Cb.nm t.cols)
noncomputable def rightTab (t : Tb) : Bool := decide (0 ≤ t.id) && (rightN (bs t.nm) && (decide (t.nx ≤ 200) && (decide (1 ≤ (t.cols.length : Int)) && (decide ((t.cols.length : Int) ≤ 10) && (rightCols t && tf (keyOk t))))))
/-- the names: the first one of a name is at its own place -/
theorem find_own {l : List Cb} {i : Nat} {c : Cb} (hc : l[i]? = some c) : (l.findIdx? fun x => eqS x.nm c.nm) = some i ↔ ∀ j y, j < i → l[j]? = some y → y.nm ≠ c.nm := by
  constructor
  · intro h j y hj hy e
    obtain ⟨_, _, _, h3⟩ := find_some h
    have := h3 j y hy hj
    rw [eqS_iff.2 e] at this; cases this
  · intro h
    refine find_at (fun j x hj hk => ?_) hc (eqS_self _)
    cases e : eqS x.nm c.nm with
    | false => rfl
    | true => exact absurd (eqS_iff.1 e) (h j x hk hj)
theorem find_ownT {l : List Tb} {i : Nat} {c : Tb} (hc : l[i]? = some c) : (l.findIdx? fun x => eqS x.nm c.nm) = some i ↔ ∀ j y, j < i → l[j]? = some y → y.nm ≠ c.nm := by
  constructor
  · intro h j y hj hy e
    obtain ⟨_, _, _, h3⟩ := find_some h
    have := h3 j y hy hj
    rw [eqS_iff.2 e] at this; cases this
  · intro h
    refine find_at (fun j x hj hk => ?_) hc (eqS_self _)
    cases e : eqS x.nm c.nm with
    | false => rfl
    | true => exact absurd (eqS_iff.1 e) (h j x hk hj)
/-- where all columns are in order the key is that of any column that could be it -/
theorem key_any {t : Tb} (hd : Dist Cb.id Cb.nm t.cols) : tf (keyOk t) = t.cols.any fun c => (c.id == t.key) && !c.nl := by
  apply bool_eq
  rw [tf_iff, List.any_eq_true]
  constructor
  · rintro ⟨i, c, h1, h2, h3⟩
    obtain ⟨y, g1, g2, _⟩ := find_some h1
    rw [h2] at g1; cases g1
    exact ⟨c, List.mem_of_getElem? h2, by simp [g2, h3]⟩
  · rintro ⟨c, hc, h⟩
    obtain ⟨i, hi⟩ := List.mem_iff_getElem?.1 hc
    simp only [Bool.and_eq_true, beq_iff_eq, Bool.not_eq_true'] at h
    refine ⟨i, c, find_at (fun j x hj hk => ?_) hi (by simp [h.1]), hi, h.2⟩
    have := dist_lt hd (i - j - 1) j x c hj (by rw [show j + (i - j - 1) + 1 = i by omega]; exact hi)
    simp; omega
/-- a catalog -/
noncomputable def rightCat (l : List Tb) : Bool := decide ((l.length : Int) ≤ 6) && (l.all rightTab && tf (Dist Tb.id Tb.nm l))

/-! ### Rows -/
def celE (c : Cb) (v : Vb) : Int := if nulV v.1 v.2.1 v.2.2 = true then (if c.nl = true then 0 else 11) else if fitT c.tk c.tm v.1 v.2.1 v.2.2 = true then 0 else 10
def rowE : List Cb → List Vb → Int
  | c :: cs, v :: vs => if celE c v = 0 then rowE cs vs else celE c v
  | _, _ => 0
theorem rowE_stop : ∀ {cs : List Cb} {vs : List Vb} {k : Nat} {c : Cb} {v : Vb}, (∀ j c v, j < k → cs[j]? = some c → vs[j]? = some v → celE c v = 0) → cs[k]? = some c → vs[k]? = some v → celE c v ≠ 0 → rowE cs vs = celE c v
  | [], _, _, _, _, _, hc, _, _ => by simp at hc
  | _ :: _, [], _, _, _, _, _, hv, _ => by simp at hv
  | a :: cs, b :: vs, 0, c, v, _, hc, hv, hn => by
    simp at hc hv; subst hc hv
    rw [rowE, if_neg hn]
  | a :: cs, b :: vs, k + 1, c, v, h, hc, hv, hn => by
    rw [rowE, if_pos (h 0 a b (by omega) rfl rfl)]
    exact rowE_stop (k := k) (fun j c v hj h1 h2 => h (j + 1) c v (by omega) (by simpa using h1) (by simpa using h2)) (by simpa using hc) (by simpa using hv) hn
theorem rowE_done : ∀ {cs : List Cb} {vs : List Vb}, (∀ (j : Nat) c v, cs[j]? = some c → vs[j]? = some v → celE c v = 0) → rowE cs vs = 0
  | [], _, _ => by rw [rowE]; intros; contradiction
  | _ :: _, [], _ => by rw [rowE]; intros; contradiction
  | a :: cs, b :: vs, h => by
    rw [rowE, if_pos (h 0 a b rfl rfl)]
    exact rowE_done (fun j c v h1 h2 => h (j + 1) c v (by simpa using h1) (by simpa using h2))
noncomputable def rowT (t : Tb) (vs : List Vb) : Int := if rightTab t = true then (if vs.length = t.cols.length then rowE t.cols vs else 5) else 2

/-! ### Fields -/
/-- the place of the column of a name -/
def colI (t : Tb) (s : ByteArray) : Option Nat := t.cols.findIdx? fun c => eqS c.nm s
/-- why the field at a place can't stand; 0 -/
noncomputable def fldE (t : Tb) (l : List Fb) (fixed : Int) (i : Nat) (f : Fb) : Int :=
  if (colI t f.nm).isSome = true then (if ((l.take i).findIdx? fun g => eqS g.nm f.nm).isSome = true then 14 else if idxI (colI t f.nm) = fixed then 15 else 0) else 13
/-- the row with the first fields' values -/
def updR (t : Tb) (vs : List Vb) (l : List Fb) : List Vb := l.foldl (fun r f => r.set ((colI t f.nm).getD 0) f.v) vs
theorem updR_length (t : Tb) (vs : List Vb) (l : List Fb) : (updR t vs l).length = vs.length := by
  unfold updR
  induction l generalizing vs with
  | nil => rfl
  | cons f l ih => rw [List.foldl_cons, ih, List.length_set]
theorem updR_snoc (t : Tb) (vs : List Vb) (l : List Fb) (f : Fb) : updR t vs (l ++ [f]) = (updR t vs l).set ((colI t f.nm).getD 0) f.v := by
  unfold updR; rw [List.foldl_append]; rfl
/-- the first field that can't stand -/
noncomputable def fldsE (t : Tb) (l : List Fb) (fixed : Int) : Int := go 0 l
where go (i : Nat) : List Fb → Int
  | [] => 0
  | f :: r => if fldE t l fixed i f = 0 then go (i + 1) r else fldE t l fixed i f
theorem fldsE_go (t : Tb) (l : List Fb) (fixed : Int) : ∀ (r : List Fb) (i k : Nat) (f : Fb), (∀ j g, r[j]? = some g → j < k → fldE t l fixed (i + j) g = 0) → r[k]? = some f → fldE t l fixed (i + k) f ≠ 0 → fldsE.go t l fixed i r = fldE t l fixed (i + k) f
  | [], _, _, _, _, h, _ => by simp at h
  | a :: r, i, 0, f, _, h, hn => by
    simp at h; subst h
    have hn' : fldE t l fixed i a ≠ 0 := hn
    rw [fldsE.go, if_neg hn']; rfl
  | a :: r, i, k + 1, f, h0, h, hn => by
    have h1 : fldE t l fixed i a = 0 := h0 0 a rfl (by omega)
    rw [fldsE.go, if_pos h1]
    have := fldsE_go t l fixed r (i + 1) k f (fun j g hj hk => by rw [show i + 1 + j = i + (j + 1) by omega]; exact h0 (j + 1) g (by simpa using hj) (by omega)) (by simpa using h) (by rw [show i + 1 + k = i + (k + 1) by omega]; exact hn)
    rw [this, show i + 1 + k = i + (k + 1) by omega]
theorem fldsE_go0 (t : Tb) (l : List Fb) (fixed : Int) : ∀ (r : List Fb) (i : Nat), (∀ j g, r[j]? = some g → fldE t l fixed (i + j) g = 0) → fldsE.go t l fixed i r = 0
  | [], _, _ => rfl
  | a :: r, i, h0 => by
    have h1 : fldE t l fixed i a = 0 := h0 0 a rfl
    rw [fldsE.go, if_pos h1]
    exact fldsE_go0 t l fixed r (i + 1) fun j g hj => by rw [show i + 1 + j = i + (j + 1) by omega]; exact h0 (j + 1) g (by simpa using hj)
theorem fldsE_stop {t : Tb} {l : List Fb} {fixed : Int} {k : Nat} {f : Fb} (h : ∀ j g, l[j]? = some g → j < k → fldE t l fixed j g = 0) (hf : l[k]? = some f) (hn : fldE t l fixed k f ≠ 0) : fldsE t l fixed = fldE t l fixed k f := by
  have := fldsE_go t l fixed l 0 k f (fun j g hj hk => by rw [Nat.zero_add]; exact h j g hj hk) hf (by rw [Nat.zero_add]; exact hn)
  rwa [Nat.zero_add] at this
theorem fldsE_done {t : Tb} {l : List Fb} {fixed : Int} (h : ∀ (j : Nat) g, l[j]? = some g → fldE t l fixed j g = 0) : fldsE t l fixed = 0 :=
  fldsE_go0 t l fixed l 0 fun j g hj => by rw [Nat.zero_add]; exact h j g hj
/-- error and row of 'replace': the row with the fields' values, or none -/
noncomputable def replE (t : Tb) (vs : List Vb) (l : List Fb) (fixed : Int) : Int :=
  if 10 < l.length then 3 else if fldsE t l fixed = 0 then rowT t (updR t vs l) else fldsE t l fixed
noncomputable def replR (t : Tb) (vs : List Vb) (l : List Fb) (fixed : Int) : List Vb := if replE t vs l fixed = 0 then updR t vs l else []
end Go.Proofs.YtebldfnocpcddaaGreatDoor

/-
  Rows of columns, tables and fields in memory; parameters of type api.Catalog, api.Table and []api.Field; structs compared.
-/
namespace Go.Proofs.YtebldfnocpcddaaGreatDoor
open Go.RowKit Go.WideShapes

theorem run_eql_V (w : World) (k n k' n' : Int) (s s' : ByteArray) : (binOp .eql 25 (VV k n s) (VV k' n' s')).run Tryz.prog w = .ok (.bool ((k == k') && ((n == n') && eqS s s'))) w := by
  cases h0 : (k == k') <;> cases h1 : (n == n') <;> cases h2 : (s.toList == s'.toList)
  all_goals simp [go_sem, h0, h1, h2]
theorem run_neq_V (w : World) (k n k' n' : Int) (s s' : ByteArray) : (binOp .neq 25 (VV k n s) (VV k' n' s')).run Tryz.prog w = .ok (.bool (!((k == k') && ((n == n') && eqS s s')))) w := by
  cases h0 : (k == k') <;> cases h1 : (n == n') <;> cases h2 : (s.toList == s'.toList)
  all_goals simp [go_sem, h0, h1, h2]
def eqC (a b : Cb) : Bool := (a.id == b.id) && (eqS a.nm b.nm && ((a.tk == b.tk) && ((a.tm == b.tm) && ((a.nl == b.nl) && ((a.dk == b.dk) && ((a.dn == b.dn) && eqS a.ds b.ds))))))
theorem run_eql_C (w : World) (a b : Cb) : (binOp .eql 56 (CV a) (CV b)).run Tryz.prog w = .ok (.bool (eqC a b)) w := by
  unfold eqC
  cases h0 : (a.id == b.id)
  · simp [go_sem, h0]
  cases h1 : (a.nm.toList == b.nm.toList)
  · simp [go_sem, h0, h1]
  cases h2 : (a.tk == b.tk)
  · simp [go_sem, h0, h1, h2]
  cases h3 : (a.tm == b.tm)
  · simp [go_sem, h0, h1, h2, h3]
  cases h4 : (a.nl == b.nl)
  · simp [go_sem, h0, h1, h2, h3, h4]
  cases h5 : (a.dk == b.dk)
  · simp [go_sem, h0, h1, h2, h3, h4, h5]
  cases h6 : (a.dn == b.dn)
  · simp [go_sem, h0, h1, h2, h3, h4, h5, h6]
  cases h7 : (a.ds.toList == b.ds.toList)
  · simp [go_sem, h0, h1, h2, h3, h4, h5, h6, h7]
  simp [go_sem, h0, h1, h2, h3, h4, h5, h6, h7]
theorem run_neq_C (w : World) (a b : Cb) : (binOp .neq 56 (CV a) (CV b)).run Tryz.prog w = .ok (.bool (!eqC a b)) w := by
  unfold eqC
  cases h0 : (a.id == b.id)
  · simp [go_sem, h0]
  cases h1 : (a.nm.toList == b.nm.toList)
  · simp [go_sem, h0, h1]
  cases h2 : (a.tk == b.tk)
  · simp [go_sem, h0, h1, h2]
  cases h3 : (a.tm == b.tm)
  · simp [go_sem, h0, h1, h2, h3]
  cases h4 : (a.nl == b.nl)
  · simp [go_sem, h0, h1, h2, h3, h4]
  cases h5 : (a.dk == b.dk)
  · simp [go_sem, h0, h1, h2, h3, h4, h5]
  cases h6 : (a.dn == b.dn)
  · simp [go_sem, h0, h1, h2, h3, h4, h5, h6]
  cases h7 : (a.ds.toList == b.ds.toList)
  · simp [go_sem, h0, h1, h2, h3, h4, h5, h6, h7]
  simp [go_sem, h0, h1, h2, h3, h4, h5, h6, h7]
theorem eqC_iff {a b : Cb} : eqC a b = true ↔ a = b := by
  obtain ⟨a1, a2, a3, a4, a5, a6, a7, a8⟩ := a
  obtain ⟨b1, b2, b3, b4, b5, b6, b7, b8⟩ := b
  have e2 : a2.toList = b2.toList ↔ a2 = b2 := by rw [← eqS_iff]; simp [eqS]
  have e8 : a8.toList = b8.toList ↔ a8 = b8 := by rw [← eqS_iff]; simp [eqS]
  simp only [eqC, Bool.and_eq_true, beq_iff_eq, Cb.mk.injEq, e2, e8]

/-! ### Rows of structs -/
def fC (c : Cb) : List Value := [.int .i64 c.id, .string c.nm, .int .i64 c.tk, .int .i64 c.tm, .bool c.nl, .int .i64 c.dk, .int .i64 c.dn, .string c.ds]
def fT (t : Tb) : List Value := [.int .i64 t.id, .string t.nm, .int .i64 t.key, .int .i64 t.nx, .slice t.A t.cols.length t.cap]
def fF (f : Fb) : List Value := [.string f.nm, .int .i64 f.k, .int .i64 f.n, .string f.s]
def fV (v : Vb) : List Value := [.int .i64 v.1, .int .i64 v.2.1, .string v.2.2]
/-- a slice of structs of m cells that lies below block B -/
def RowAt {α : Type} (m : Nat) (f : α → List Value) (w : World) (B : Nat) (A : Option Addr) (l : List α) : Prop :=
  0 < l.length → ∃ b off, A = some ⟨b, off, none⟩ ∧ b < B ∧ ∀ j x, l[j]? = some x → ∀ i v, (f x)[i]? = some v → w.cell? ⟨b, off + j * m + i, none⟩ = some v
theorem RowAt.below {α : Type} {m : Nat} {f : α → List Value} {w w' : World} {B : Nat} {A : Option Addr} {l : List α} (h : RowAt m f w B A l) (hb : Below B w w') : RowAt m f w' B A l := fun hl => by
  obtain ⟨b, off, rfl, h1, h2⟩ := h hl
  exact ⟨b, off, rfl, h1, fun j x hj i v hv => (hb.cell (p := ⟨b, off + j * m + i, none⟩) h1).trans (h2 j x hj i v hv)⟩
theorem RowAt.more {α : Type} {m : Nat} {f : α → List Value} {w : World} {B B' : Nat} {A : Option Addr} {l : List α} (h : RowAt m f w B A l) (hB : B ≤ B') : RowAt m f w B' A l := fun hl => by
  obtain ⟨b, off, rfl, h1, h2⟩ := h hl
  exact ⟨b, off, rfl, by omega, h2⟩
theorem RowAt.to {α : Type} {m : Nat} {f : α → List Value} {w w' : World} {A : Option Addr} {l : List α} (h : RowAt m f w w.heap.size A l) (hb : Below w.heap.size w w') : RowAt m f w' w'.heap.size A l := (h.below hb).more hb.size
/-- a shorter slice of the same -/
theorem RowAt.take {α : Type} {m : Nat} {f : α → List Value} {w : World} {B : Nat} {A : Option Addr} {l : List α} (h : RowAt m f w B A l) (n : Nat) : RowAt m f w B A (l.take n) := fun hl => by
  obtain ⟨b, off, rfl, h1, h2⟩ := h (by rw [List.length_take] at hl; omega)
  exact ⟨b, off, rfl, h1, fun j x hj i v hv => h2 j x (by rw [List.getElem?_take] at hj; split at hj; exact hj; cases hj) i v hv⟩
def ColsAt (w : World) (B : Nat) (A : Option Addr) (l : List Cb) : Prop := RowAt 8 fC w B A l
def FldsAt (w : World) (B : Nat) (A : Option Addr) (l : List Fb) : Prop := RowAt 4 fF w B A l
/-- what of a table lies elsewhere -/
def TabAt (w : World) (B : Nat) (t : Tb) : Prop := ColsAt w B t.A t.cols
def TabsAt (w : World) (B : Nat) (A : Option Addr) (l : List Tb) : Prop := RowAt 5 fT w B A l ∧ ∀ t ∈ l, TabAt w B t
theorem TabsAt.below {w w' : World} {B : Nat} {A : Option Addr} {l : List Tb} (h : TabsAt w B A l) (hb : Below B w w') : TabsAt w' B A l := ⟨h.1.below hb, fun t ht => RowAt.below (h.2 t ht) hb⟩
theorem TabsAt.more {w : World} {B B' : Nat} {A : Option Addr} {l : List Tb} (h : TabsAt w B A l) (hB : B ≤ B') : TabsAt w B' A l := ⟨h.1.more hB, fun t ht => RowAt.more (h.2 t ht) hB⟩
theorem TabsAt.to {w w' : World} {A : Option Addr} {l : List Tb} (h : TabsAt w w.heap.size A l) (hb : Below w.heap.size w w') : TabsAt w' w'.heap.size A l := (h.below hb).more hb.size
theorem TabsAt.take {w : World} {B : Nat} {A : Option Addr} {l : List Tb} (h : TabsAt w B A l) (n : Nat) : TabsAt w B A (l.take n) := ⟨h.1.take n, fun t ht => h.2 t (List.mem_of_mem_take ht)⟩
theorem ColsAt.get {w : World} {B : Nat} {A : Option Addr} {l : List Cb} (h : ColsAt w B A l) (k : Nat) (c : Cb) (hk : l[k]? = some c) : ∃ b off, A = some ⟨b, off, none⟩ ∧ b < B ∧
    w.cell? ⟨b, off + k * 8, none⟩ = some (.int .i64 c.id) ∧ w.cell? ⟨b, off + k * 8 + 1, none⟩ = some (.string c.nm) ∧ w.cell? ⟨b, off + k * 8 + 2, none⟩ = some (.int .i64 c.tk) ∧ w.cell? ⟨b, off + k * 8 + 3, none⟩ = some (.int .i64 c.tm) ∧
    w.cell? ⟨b, off + k * 8 + 4, none⟩ = some (.bool c.nl) ∧ w.cell? ⟨b, off + k * 8 + 5, none⟩ = some (.int .i64 c.dk) ∧ w.cell? ⟨b, off + k * 8 + 6, none⟩ = some (.int .i64 c.dn) ∧ w.cell? ⟨b, off + k * 8 + 7, none⟩ = some (.string c.ds) := by
  obtain ⟨b, off, rfl, h1, h2⟩ := h (by have := (List.getElem?_eq_some_iff.1 hk).1; omega)
  have := h2 k c hk
  exact ⟨b, off, rfl, h1, this 0 _ rfl, this 1 _ rfl, this 2 _ rfl, this 3 _ rfl, this 4 _ rfl, this 5 _ rfl, this 6 _ rfl, this 7 _ rfl⟩
theorem TabsAt.get {w : World} {B : Nat} {A : Option Addr} {l : List Tb} (h : TabsAt w B A l) (k : Nat) (t : Tb) (hk : l[k]? = some t) : ∃ b off, A = some ⟨b, off, none⟩ ∧ b < B ∧
    w.cell? ⟨b, off + k * 5, none⟩ = some (.int .i64 t.id) ∧ w.cell? ⟨b, off + k * 5 + 1, none⟩ = some (.string t.nm) ∧ w.cell? ⟨b, off + k * 5 + 2, none⟩ = some (.int .i64 t.key) ∧ w.cell? ⟨b, off + k * 5 + 3, none⟩ = some (.int .i64 t.nx) ∧
    w.cell? ⟨b, off + k * 5 + 4, none⟩ = some (.slice t.A t.cols.length t.cap) := by
  obtain ⟨b, off, rfl, h1, h2⟩ := h.1 (by have := (List.getElem?_eq_some_iff.1 hk).1; omega)
  have := h2 k t hk
  exact ⟨b, off, rfl, h1, this 0 _ rfl, this 1 _ rfl, this 2 _ rfl, this 3 _ rfl, this 4 _ rfl⟩
theorem FldsAt.get {w : World} {B : Nat} {A : Option Addr} {l : List Fb} (h : FldsAt w B A l) (k : Nat) (f : Fb) (hk : l[k]? = some f) : ∃ b off, A = some ⟨b, off, none⟩ ∧ b < B ∧
    w.cell? ⟨b, off + k * 4, none⟩ = some (.string f.nm) ∧ w.cell? ⟨b, off + k * 4 + 1, none⟩ = some (.int .i64 f.k) ∧ w.cell? ⟨b, off + k * 4 + 2, none⟩ = some (.int .i64 f.n) ∧ w.cell? ⟨b, off + k * 4 + 3, none⟩ = some (.string f.s) := by
  obtain ⟨b, off, rfl, h1, h2⟩ := h (by have := (List.getElem?_eq_some_iff.1 hk).1; omega)
  have := h2 k f hk
  exact ⟨b, off, rfl, h1, this 0 _ rfl, this 1 _ rfl, this 2 _ rfl, this 3 _ rfl⟩

/-! ### A struct in its box -/
def BlkN (w : World) (b : Nat) (vs : List Value) : Prop := ∀ i v, vs[i]? = some v → w.cell? ⟨b, i, none⟩ = some v
theorem BlkN.new (w : World) (b : Nat) (vs : List Value) (t : TypeId) (h : b = w.heap.size) : BlkN (w.alloc (.cells vs.toArray t)) b vs := fun i v hv => by
  subst h
  simp [hv]
theorem BlkN.below {w w1 : World} {b B : Nat} {vs : List Value} (h : BlkN w b vs) (hb : Below B w w1) (hB : b < B) : BlkN w1 b vs := fun i v hv => (hb.cell (p := ⟨b, i, none⟩) hB).trans (h i v hv)
theorem BlkN.alloc {w : World} {b : Nat} {vs : List Value} (h : BlkN w b vs) (hb : b < w.heap.size) (o : Obj) : BlkN (w.alloc o) b vs := h.below ((Below.refl w.heap.size w).alloc (Nat.le_refl _) o) hb
/-- a table in its box -/
theorem BlkN.tab {w : World} {b : Nat} {t : Tb} (h : BlkN w b (fT t)) : w.cell? ⟨b, 0, none⟩ = some (.int .i64 t.id) ∧ w.cell? ⟨b, 1, none⟩ = some (.string t.nm) ∧ w.cell? ⟨b, 2, none⟩ = some (.int .i64 t.key) ∧ w.cell? ⟨b, 3, none⟩ = some (.int .i64 t.nx) ∧ w.cell? ⟨b, 4, none⟩ = some (.slice t.A t.cols.length t.cap) :=
  ⟨h 0 _ rfl, h 1 _ rfl, h 2 _ rfl, h 3 _ rfl, h 4 _ rfl⟩
theorem BlkN.col {w : World} {b : Nat} {c : Cb} (h : BlkN w b (fC c)) : w.cell? ⟨b, 0, none⟩ = some (.int .i64 c.id) ∧ w.cell? ⟨b, 1, none⟩ = some (.string c.nm) ∧ w.cell? ⟨b, 2, none⟩ = some (.int .i64 c.tk) ∧ w.cell? ⟨b, 3, none⟩ = some (.int .i64 c.tm) ∧
    w.cell? ⟨b, 4, none⟩ = some (.bool c.nl) ∧ w.cell? ⟨b, 5, none⟩ = some (.int .i64 c.dk) ∧ w.cell? ⟨b, 6, none⟩ = some (.int .i64 c.dn) ∧ w.cell? ⟨b, 7, none⟩ = some (.string c.ds) :=
  ⟨h 0 _ rfl, h 1 _ rfl, h 2 _ rfl, h 3 _ rfl, h 4 _ rfl, h 5 _ rfl, h 6 _ rfl, h 7 _ rfl⟩
theorem BlkN.fld {w : World} {b : Nat} {f : Fb} (h : BlkN w b (fF f)) : w.cell? ⟨b, 0, none⟩ = some (.string f.nm) ∧ w.cell? ⟨b, 1, none⟩ = some (.int .i64 f.k) ∧ w.cell? ⟨b, 2, none⟩ = some (.int .i64 f.n) ∧ w.cell? ⟨b, 3, none⟩ = some (.string f.s) :=
  ⟨h 0 _ rfl, h 1 _ rfl, h 2 _ rfl, h 3 _ rfl⟩
theorem BlkN.one {w : World} {b : Nat} {v : Value} (h : BlkN w b [v]) : w.cell? ⟨b, 0, none⟩ = some v := h 0 _ rfl

end Go.Proofs.YtebldfnocpcddaaGreatDoor

/-
  Rows of values of the call's own: a whole row appended, a value stored in its place.
-/
namespace Go.Proofs.YtebldfnocpcddaaGreatDoor
open Go.RowKit

theorem P3_length (l : List Vb) : (P3 l).length = l.length * 3 := by
  induction l with
  | nil => rfl
  | cons x r ih => simp [P3, ih]; omega
theorem P3_all : ∀ {vs : List Vb} {Q : Nat → Value → Prop}, (∀ i t, vs[i]? = some t → Q (i * 3) (.int .i64 t.1) ∧ Q (i * 3 + 1) (.int .i64 t.2.1) ∧ Q (i * 3 + 2) (.string t.2.2)) → ∀ j u, (P3 vs)[j]? = some u → Q j u
  | [], _, _, j, u, hj => by simp [P3] at hj
  | x :: r, Q, h, 0, u, hj => by simp [P3] at hj; subst hj; exact (h 0 x rfl).1
  | x :: r, Q, h, 1, u, hj => by simp [P3] at hj; subst hj; exact (h 0 x rfl).2.1
  | x :: r, Q, h, 2, u, hj => by simp [P3] at hj; subst hj; exact (h 0 x rfl).2.2
  | x :: r, Q, h, j + 3, u, hj => by
    refine P3_all (vs := r) (Q := fun j u => Q (j + 3) u) (fun i t hi => ?_) j u (by simpa [P3] using hj)
    have := h (i + 1) t (by simpa using hi)
    rw [show (i + 1) * 3 = i * 3 + 3 by omega, show i * 3 + 3 + 1 = i * 3 + 1 + 3 by omega, show i * 3 + 3 + 2 = i * 3 + 2 + 3 by omega] at this
    exact this
theorem P3_set : ∀ (l : List Vb) (k : Nat) (t : Vb), P3 (l.set k t) = (((P3 l).set (k * 3) (.int .i64 t.1)).set (k * 3 + 1) (.int .i64 t.2.1)).set (k * 3 + 2) (.string t.2.2)
  | [], k, t => by simp [P3]
  | x :: r, 0, t => by simp [P3]
  | x :: r, k + 1, t => by
    rw [show (k + 1) * 3 = k * 3 + 1 + 1 + 1 by omega, show k * 3 + 1 + 1 + 1 + 1 = k * 3 + 1 + 1 + 1 + 1 by omega, show k * 3 + 1 + 1 + 1 + 2 = k * 3 + 2 + 1 + 1 + 1 by omega]
    simp [P3, P3_set r k t]
/-- a value stored in its place -/
theorem OwnV.set3 {w : World} {base g cap : Nat} {l : List Vb} (h : OwnV w base (.slice (some ⟨g, 0, none⟩) l.length cap) l) (k : Nat) (t : Vb) :
    OwnV (((w.setCell ⟨g, k * 3, none⟩ (.int .i64 t.1)).setCell ⟨g, k * 3 + 1, none⟩ (.int .i64 t.2.1)).setCell ⟨g, k * 3 + 2, none⟩ (.string t.2.2)) base (.slice (some ⟨g, 0, none⟩) l.length cap) (l.set k t) := by
  unfold OwnV
  rw [List.length_set, P3_set]
  exact (World.ownsRow.stored (World.ownsRow.stored (World.ownsRow.stored h (k * 3) _).1 (k * 3 + 1) _).1 (k * 3 + 2) _).1
/-- the shape of a row of the call's own that is not empty -/
theorem OwnV.shape {w : World} {base : Nat} {v : Value} {l : List Vb} (h : OwnV w base v l) (hl : 0 < l.length) : ∃ g cap, v = .slice (some ⟨g, 0, none⟩) l.length cap ∧ base ≤ g ∧ g < w.heap.size ∧ l.length ≤ cap := by
  rcases h.2 with ⟨_, h0⟩ | ⟨g, cap, cur, rfl, hb, hg, hc, _⟩
  · omega
  · exact ⟨g, cap, rfl, hb, (Array.getElem?_eq_some_iff.1 hg).1, hc⟩
theorem OwnV.lit0 (w : World) (base : Nat) (hb : base ≤ w.heap.size) : OwnV (w.alloc (.cells #[] 25)) base (.slice (some ⟨w.heap.size, 0, none⟩) 0 0) [] :=
  World.ownsRow_lit w #[] 0 hb (by unfold maxLen; omega) rfl
end Go.Proofs.YtebldfnocpcddaaGreatDoor

/-
  Contracts of package schema's generic 'first', at tables, columns and fields, for whatever function it is handed.
-/
namespace Go.Proofs.YtebldfnocpcddaaGreatDoor
open Go.RowKit

end Go.Proofs.YtebldfnocpcddaaGreatDoor

/-
  Contracts of package schema's Find, ById, Col, Key, hasField and of their function literals.
-/
namespace Go.Proofs.YtebldfnocpcddaaGreatDoor
open Go.RowKit

theorem keep_alloc {w : World} {a : Addr} {v : Value} (h : w.cell? a = some v) (o : Obj) : (w.alloc o).cell? a = some v :=
  (((Below.refl w.heap.size w).alloc (Nat.le_refl _) o).cell (World.block_lt_of_cell? w a h)).trans h
theorem below_two (w : World) (o o2 : Obj) : Below w.heap.size w ((w.alloc o).alloc o2) := ((Below.refl _ _).alloc (Nat.le_refl _) o).alloc (by simp) o2
theorem below_one (w : World) (o : Obj) : Below w.heap.size w (w.alloc o) := (Below.refl _ _).alloc (Nat.le_refl _) o

theorem fstV_eq (o : Option Nat) : ∃ (i : Int) (b : Bool), fstV o = .tuple #[.int .i64 i, .bool b] := ⟨_, _, rfl⟩

end Go.Proofs.YtebldfnocpcddaaGreatDoor

/-
  Parameters of type api.Catalog, api.Table and []api.Field, opened.
-/
namespace Go.Proofs.YtebldfnocpcddaaGreatDoor
open Go.RowKit Go.WideShapes

/-! ### Opening -/
theorem row_open {α : Type} [Inhabited α] {H : Type} {enc : TypeId × Value → H} {W : World} {sp : Nat → Bool} {m : Nat} {f : α → List Value} {Q : α → Prop} {ts e : TypeId} (hts : Tryz.prog.underlying ts = some (.slice e)) (hm : Tryz.prog.cellsOf e = m)
    (hone : ∀ fuel cs x, DataW.trod enc Tryz.prog W 0 sp true fuel e cs = some x → ∃ a, cs = f a ∧ Q a) (hf0 : ∀ a, ∃ v, (f a)[0]? = some v)
    {fuel : Nat} {v : Value} {x : DataW H × List MemPlace} (h : DataW.trod enc Tryz.prog W 0 sp true fuel ts [v] = some x) : ∃ a len cap, v = .slice a len cap ∧ ∃ l : List α, l.length = len ∧ len ≤ maxLen ∧ len ≤ cap ∧ RowAt m f W W.heap.size a l ∧ ∀ x ∈ l, Q x := by
  rcases Go.Deep.open_slice hts h with ⟨hcs, _⟩ | ⟨x, len, cap, m', n, D, Pl, hcs, hb, hl, hmx, hmm, _, hx⟩
  · obtain rfl : v = .slice none 0 0 := by simpa using hcs
    exact ⟨none, 0, 0, rfl, [], rfl, Nat.zero_le _, Nat.zero_le _, fun hp => absurd hp (by simp), by simp⟩
  · obtain rfl : v = .slice (some x) len cap := by simpa using hcs
    rw [hm] at hx
    have hlm : len ≤ m' := by rw [hmm]; split <;> omega
    have one : ∀ i, i < len → ∃ a : α, (∀ j v, (f a)[j]? = some v → W.cell? ((x.add (i * m)).add j) = some v) ∧ Q a := fun i hi => by
      obtain ⟨cs, h1, h2⟩ := hx i (by omega)
      obtain ⟨_, hlen, hc⟩ := World.cells?_some h1
      obtain ⟨a, rfl, hq⟩ := hone _ _ _ h2
      refine ⟨a, fun j v hv => ?_, hq⟩
      rw [hc j (by have := (List.getElem?_eq_some_iff.1 hv).1; omega)]
      exact hv
    obtain ⟨g, hg⟩ := Go.Deep.choose_lt one
    refine ⟨some x, len, cap, rfl, (List.range len).map g, by simp, by omega, hl, fun hp => ?_, fun y hy => ?_⟩
    · simp at hp
      obtain ⟨v0, hv0⟩ := hf0 (g 0)
      have e0 := (hg 0 hp).1 0 v0 hv0
      obtain ⟨b, off, spt⟩ := x
      obtain rfl : spt = none := by simpa [Addr.add] using World.cell?_spot e0
      have hlt := World.block_lt_of_cell? W _ e0
      rw [Addr.add_lit, Addr.add_lit] at hlt
      refine ⟨b, off, rfl, hlt, fun j t hj i v hv => ?_⟩
      have hjl : j < len := by
        have := (List.getElem?_eq_some_iff.1 hj).1
        simpa using this
      have ht : g j = t := by simpa [hjl] using hj
      subst ht
      have := (hg j hjl).1 i v hv
      simp only [Addr.add_lit] at this
      exact this
    · simp at hy
      obtain ⟨i, hi, rfl⟩ := hy
      exact (hg i hi).2
instance : Inhabited Cb := ⟨⟨0, ByteArray.empty, 0, 0, false, 0, 0, ByteArray.empty⟩⟩
instance : Inhabited Tb := ⟨⟨0, ByteArray.empty, 0, 0, none, 0, []⟩⟩
instance : Inhabited Fb := ⟨⟨ByteArray.empty, 0, 0, ByteArray.empty⟩⟩
/-- what is known of a column that comes in, of a table, of a field, of a value -/
def InC (c : Cb) : Prop := (Lit.int .i64 c.id).wf = true ∧ c.nm.size ≤ maxLen ∧ (Lit.int .i64 c.tk).wf = true ∧ (Lit.int .i64 c.tm).wf = true ∧ (Lit.int .i64 c.dk).wf = true ∧ (Lit.int .i64 c.dn).wf = true ∧ c.ds.size ≤ maxLen
def InT (w : World) (t : Tb) : Prop := (Lit.int .i64 t.id).wf = true ∧ t.nm.size ≤ maxLen ∧ (Lit.int .i64 t.key).wf = true ∧ (Lit.int .i64 t.nx).wf = true ∧ t.cols.length ≤ maxLen ∧ t.cols.length ≤ t.cap ∧ TabAt w w.heap.size t ∧ ∀ c ∈ t.cols, InC c
def InF (f : Fb) : Prop := f.nm.size ≤ maxLen ∧ (Lit.int .i64 f.k).wf = true ∧ (Lit.int .i64 f.n).wf = true ∧ f.s.size ≤ maxLen
set_option maxRecDepth 100000 in
theorem q_int : Tryz.prog.cellsOf 3 = 1 := by kernel_rfl
set_option maxRecDepth 100000 in
theorem q_int64 : Tryz.prog.cellsOf 2 = 1 := by kernel_rfl
set_option maxRecDepth 100000 in
theorem q_string : Tryz.prog.cellsOf 9 = 1 := by kernel_rfl
set_option maxRecDepth 100000 in
theorem q_bool : Tryz.prog.cellsOf 4 = 1 := by kernel_rfl
set_option maxRecDepth 100000 in
theorem q_type : Tryz.prog.cellsOf 23 = 2 := by kernel_rfl
set_option maxRecDepth 100000 in
theorem q_col : Tryz.prog.cellsOf 56 = 8 := by kernel_rfl
set_option maxRecDepth 100000 in
theorem q_cols : Tryz.prog.cellsOf 26 = 1 := by kernel_rfl
set_option maxRecDepth 100000 in
theorem q_tab : Tryz.prog.cellsOf 45 = 5 := by kernel_rfl
set_option maxRecDepth 100000 in
theorem val_of {H : Type} {enc : TypeId × Value → H} {W : World} {sp : Nat → Bool} {fuel : Nat} {c0 c1 c2 : Value} {y : DataW H × List MemPlace}
    (h : DataW.trod enc Tryz.prog W 0 sp true fuel 25 [c0, c1, c2] = some y) : ∃ (k n : Int) (s : ByteArray), c0 = .int .i64 k ∧ c1 = .int .i64 n ∧ c2 = .string s ∧ (Lit.int .i64 k).wf = true ∧ (Lit.int .i64 n).wf = true ∧ s.size ≤ maxLen := by
  obtain ⟨y0, y1, y2, n', _, _, t0, t1, t2⟩ := Go.Deep.trod_struct3 Tryz.underlying25 h
  simp [q_int, q_int64, q_string] at t0 t1 t2
  obtain ⟨k, r0, _, w0⟩ := DataW.trod_int Tryz.underlying3 t0
  obtain ⟨n, r1, _, w1⟩ := DataW.trod_int Tryz.underlying2 t1
  obtain ⟨s, r2, _, w2⟩ := DataW.trod_string Tryz.underlying9 t2
  simp at r0 r1 r2
  exact ⟨k, n, s, r0, r1, r2, w0, w1, w2⟩
set_option maxRecDepth 100000 in
theorem typ_of {H : Type} {enc : TypeId × Value → H} {W : World} {sp : Nat → Bool} {fuel : Nat} {c0 c1 : Value} {y : DataW H × List MemPlace}
    (h : DataW.trod enc Tryz.prog W 0 sp true fuel 23 [c0, c1] = some y) : ∃ k m : Int, c0 = .int .i64 k ∧ c1 = .int .i64 m ∧ (Lit.int .i64 k).wf = true ∧ (Lit.int .i64 m).wf = true := by
  obtain ⟨xs, n', _, _, _, hlen, hf⟩ := DataW.trod_struct Tryz.underlying23 h
  match xs, hlen with
  | [y0, y1], _ =>
    have t0 := hf 0 _ rfl
    have t1 := hf 1 _ rfl
    simp [q_int] at t0 t1
    obtain ⟨k, r0, _, w0⟩ := DataW.trod_int Tryz.underlying3 t0
    obtain ⟨m, r1, _, w1⟩ := DataW.trod_int Tryz.underlying3 t1
    simp at r0 r1
    exact ⟨k, m, r0, r1, w0, w1⟩
set_option maxRecDepth 100000 in
theorem col_of {H : Type} {enc : TypeId × Value → H} {W : World} {sp : Nat → Bool} (fuel : Nat) (cs : List Value) (y : DataW H × List MemPlace)
    (h : DataW.trod enc Tryz.prog W 0 sp true fuel 56 cs = some y) : ∃ c : Cb, cs = fC c ∧ InC c := by
  obtain ⟨xs, n', _, _, hl, hlen, hf⟩ := DataW.trod_struct Tryz.underlying56 h
  rw [q_col] at hl
  match xs, hlen with
  | [y0, y1, y2, y3, y4], _ =>
    match cs, hl with
    | [c0, c1, c2, c3, c4, c5, c6, c7], _ =>
      have t0 := hf 0 _ rfl
      have t1 := hf 1 _ rfl
      have t2 := hf 2 _ rfl
      have t3 := hf 3 _ rfl
      have t4 := hf 4 _ rfl
      simp [q_int, q_string, q_bool, q_type, cellsV] at t0 t1 t2 t3 t4
      obtain ⟨i, r0, _, w0⟩ := DataW.trod_int Tryz.underlying3 t0
      obtain ⟨s, r1, _, w1⟩ := DataW.trod_string Tryz.underlying9 t1
      obtain ⟨k, m, rfl, rfl, w2, w3⟩ := typ_of t2
      obtain ⟨b, r3, _⟩ := DataW.trod_bool Tryz.underlying4 t3
      obtain ⟨dk, dn, ds, rfl, rfl, rfl, w5, w6, w7⟩ := val_of t4
      simp at r0 r1 r3
      subst r0 r1 r3
      exact ⟨⟨i, s, k, m, b, dk, dn, ds⟩, rfl, w0, w1, w2, w3, w5, w6, w7⟩
set_option maxRecDepth 100000 in
theorem tab8_of {H : Type} {enc : TypeId × Value → H} {W : World} {sp : Nat → Bool} (fuel : Nat) (cs : List Value) (y : DataW H × List MemPlace)
    (h : DataW.trod enc Tryz.prog W 0 sp true fuel 45 cs = some y) : ∃ c : Tb, cs = fT c ∧ InT W c := by
  obtain ⟨xs, n', _, _, hl, hlen, hf⟩ := DataW.trod_struct Tryz.underlying45 h
  rw [q_tab] at hl
  match xs, hlen with
  | [y0, y1, y2, y3, y4], _ =>
    match cs, hl with
    | [c0, c1, c2, c3, c4], _ =>
      have t0 := hf 0 _ rfl
      have t1 := hf 1 _ rfl
      have t2 := hf 2 _ rfl
      have t3 := hf 3 _ rfl
      have t4 := hf 4 _ rfl
      simp [q_int, q_string, q_cols] at t0 t1 t2 t3 t4
      obtain ⟨i, r0, _, w0⟩ := DataW.trod_int Tryz.underlying3 t0
      obtain ⟨s, r1, _, w1⟩ := DataW.trod_string Tryz.underlying9 t1
      obtain ⟨k, r2, _, w2⟩ := DataW.trod_int Tryz.underlying3 t2
      obtain ⟨x, r3, _, w3⟩ := DataW.trod_int Tryz.underlying3 t3
      obtain ⟨a, len, cap, rfl, l, rfl, hl1, hlc, hl2, hl3⟩ := row_open Tryz.underlying26 q_col col_of (fun a => ⟨_, rfl⟩) t4
      simp at r0 r1 r2 r3
      subst r0 r1 r2 r3
      exact ⟨⟨i, s, k, x, a, cap, l⟩, rfl, w0, w1, w2, w3, hl1, hlc, hl2, hl3⟩
set_option maxRecDepth 100000 in
theorem openTab {H : Type} {enc : TypeId × Value → H} {W : World} {base : Nat} {v : Value} {d : DataW H} {p : List MemPlace} {sp : Nat → Bool}
    (hv : Value.okWide Tryz.prog W .any base 45 v) (h : DataW.Trod enc Tryz.prog W 0 sp true 45 v d p) : ∃ t : Tb, v = TV t ∧ InT W t := by
  obtain ⟨cs, rfl, _⟩ := okWide_struct Tryz.underlying45 hv
  obtain ⟨fuel, hf⟩ := h
  obtain ⟨t, h1, h2⟩ := tab8_of _ _ _ hf
  refine ⟨t, ?_, h2⟩
  simp only [Value.cells] at h1
  show Value.agg cs = Value.agg (fT t).toArray
  rw [← h1]
/-- a catalog's tables -/
def TabsIn (w : World) (A : Option Addr) (cap : Nat) (l : List Tb) : Prop := l.length ≤ maxLen ∧ l.length ≤ cap ∧ TabsAt w w.heap.size A l ∧ ∀ t ∈ l, InT w t
def FldsIn (w : World) (A : Option Addr) (cap : Nat) (l : List Fb) : Prop := l.length ≤ maxLen ∧ l.length ≤ cap ∧ FldsAt w w.heap.size A l ∧ ∀ f ∈ l, InF f
/-- a row of values with what is known of its capacity -/
def RowIn (w : World) (A : Option Addr) (cap : Nat) (l : List Vb) : Prop := l.length ≤ maxLen ∧ (A = none → cap = 0) ∧ ValsAt w w.heap.size A l ∧ ∀ v ∈ l, (Lit.int .i64 v.1).wf = true ∧ (Lit.int .i64 v.2.1).wf = true ∧ v.2.2.size ≤ maxLen
end Go.Proofs.YtebldfnocpcddaaGreatDoor

/-
  Contracts of the document's own Find, ById, Col and Key of layer 8.
-/
namespace Go.Proofs.YtebldfnocpcddaaGreatDoor
open Go.RowKit

/-- a table, a column, a slice in a new box -/
theorem box_tab (w : World) (t : Tb) : ∃ w0, w.alloc (.cells #[.int .i64 t.id, .string t.nm, .int .i64 t.key, .int .i64 t.nx, .slice t.A t.cols.length t.cap] 45) = w0 ∧ Below w.heap.size w w0 ∧ BlkN w0 w.heap.size (fT t) ∧ w0.heap.size = w.heap.size + 1 :=
  ⟨_, rfl, (Below.refl _ _).alloc (Nat.le_refl _) _, BlkN.new w _ (fT t) _ rfl, by simp⟩
theorem box_col (w : World) (c : Cb) : ∃ w0, w.alloc (.cells #[.int .i64 c.id, .string c.nm, .int .i64 c.tk, .int .i64 c.tm, .bool c.nl, .int .i64 c.dk, .int .i64 c.dn, .string c.ds] 56) = w0 ∧ Below w.heap.size w w0 ∧ BlkN w0 w.heap.size (fC c) ∧ w0.heap.size = w.heap.size + 1 :=
  ⟨_, rfl, (Below.refl _ _).alloc (Nat.le_refl _) _, BlkN.new w _ (fC c) _ rfl, by simp⟩
theorem box_one (w : World) (v : Value) (ty : TypeId) : ∃ w0, w.alloc (.cells #[v] ty) = w0 ∧ Below w.heap.size w w0 ∧ BlkN w0 w.heap.size [v] ∧ w0.heap.size = w.heap.size + 1 :=
  ⟨_, rfl, (Below.refl _ _).alloc (Nat.le_refl _) _, BlkN.new w _ [v] _ rfl, by simp⟩
end Go.Proofs.YtebldfnocpcddaaGreatDoor

/-
  Contracts of package schema's isNull, RightColumn, checkValue and of the document's own Column.
-/
namespace Go.Proofs.YtebldfnocpcddaaGreatDoor
open Go.RowKit

theorem below_one' (w : World) (o : Obj) : Below w.heap.size w (w.alloc o) := (Below.refl _ _).alloc (Nat.le_refl _) o
end Go.Proofs.YtebldfnocpcddaaGreatDoor

/-
  Contracts of slices.EqualFunc at tables and columns, of package schema's SameTable and Same, and of the document's own.
-/
namespace Go.Proofs.YtebldfnocpcddaaGreatDoor
open Go.RowKit

/-- are two lists alike, place by place? -/
def Pair {α : Type} (r : α → α → Bool) (a b : List α) : Prop := a.length = b.length ∧ ∀ (j : Nat) x y, a[j]? = some x → b[j]? = some y → r x y = true
theorem pair_stop {α : Type} {r : α → α → Bool} {a b : List α} {k : Nat} {x y : α} (hx : a[k]? = some x) (hy : b[k]? = some y) (h : r x y = false) : tf (Pair r a b) = false :=
  tf_no fun hp => by have := hp.2 k x y hx hy; rw [h] at this; cases this
theorem pair_self {α : Type} {r : α → α → Bool} (h : ∀ x, r x x = true) (a : List α) : tf (Pair r a a) = true :=
  tf_yes ⟨rfl, fun j x y hx hy => by rw [hx] at hy; cases hy; exact h x⟩
/-- are two tables alike? -/
noncomputable def sameT (a b : Tb) : Bool := (a.id == b.id) && (eqS a.nm b.nm && ((a.key == b.key) && ((a.nx == b.nx) && tf (Pair eqC a.cols b.cols))))
theorem eqC_self (c : Cb) : eqC c c = true := eqC_iff.2 rfl
theorem sameT_self (t : Tb) : sameT t t = true := by
  unfold sameT
  rw [pair_self eqC_self, eqS_self]; simp
end Go.Proofs.YtebldfnocpcddaaGreatDoor

/-
  Contracts of package schema's SameTable and Same, and of the document's own SameCols, SameTable and Same.
-/
namespace Go.Proofs.YtebldfnocpcddaaGreatDoor
open Go.RowKit

set_option maxRecDepth 100000 in
set_option maxHeartbeats 1600000 in
theorem rsamec_any (A A2 : Option Addr) (cp cp2 : Nat) (a b : List Cb) (w : World) (hA : ColsAt w w.heap.size A a) (hA2 : ColsAt w w.heap.size A2 b) (hl : a.length ≤ 1000000) (_hl2 : b.length ≤ 1000000) :
    Calls Tryz.prog 36 #[.slice A a.length cp, .slice A2 b.length cp2] w fun e w' => e = .returned (.bool (tf (Pair eqC a b))) ∧ Below w.heap.size w w' := by
  have HA := Lib.hid hA; clear hA
  have HA2 := Lib.hid hA2; clear hA2
  by_cases hlen : a.length = b.length
  · have hneq : ((a.length : Int) != (b.length : Int)) = false := by simp [hlen]
    have heql : ((a.length : Int) == (b.length : Int)) = true := by simp [hlen]
    have Hlen := Lib.hid hlen; clear hlen
    go_enter Tryz.func36, Tryz.ntmps36
    go_wp2_with fail
    go_loopw [5] (fun i wr => ∃ k : Nat, k ≤ a.length ∧ i = .int .i64 k ∧ Hid (∀ j x y, a[j]? = some x → b[j]? = some y → j < k → eqC x y = true) ∧ Hid (Below w.heap.size w wr)) (fun i _ => a.length - (intOf i).toNat)
    case atStart => exact ⟨0, by omega, rfl, fun j x y _ _ h => absurd h (by omega), Below.refl _ _⟩
    case round =>
      obtain ⟨k, hk, rfl, hall, hb⟩ := hrel
      by_cases hlt : k < a.length
      · have hlt2 : k < b.length := by have := Hlen.out; omega
        obtain ⟨x, hx⟩ : ∃ x, a[k]? = some x := ⟨a[k], by simp [hlt]⟩
        obtain ⟨y, hy⟩ : ∃ y, b[k]? = some y := ⟨b[k], by simp [hlt2]⟩
        have Hx := Lib.hid hx
        have Hy := Lib.hid hy
        obtain ⟨b1, off, rfl, hbB, c0, c1, c2, c3, c4, c5, c6, c7⟩ := ColsAt.get (RowAt.below HA.out hb.out) k x hx
        obtain ⟨b2, off2, rfl, hbB2, d0, d1, d2, d3, d4, d5, d6, d7⟩ := ColsAt.get (RowAt.below HA2.out hb.out) k y hy
        have hne : Nonempty (BelowBy wr.heap.size wr) := ⟨⟨wr, Below.refl _ _⟩⟩
        have X0 : ∀ p : BelowBy wr.heap.size wr, p.x.cell? ⟨b1, off + k * 8, none⟩ = some (.int .i64 x.id) := fun p => (p.h.cell (by have := hb.out.size; simp; omega)).trans c0
        have X1 : ∀ p : BelowBy wr.heap.size wr, p.x.cell? ⟨b1, off + k * 8 + 1, none⟩ = some (.string x.nm) := fun p => (p.h.cell (by have := hb.out.size; simp; omega)).trans c1
        have X2 : ∀ p : BelowBy wr.heap.size wr, p.x.cell? ⟨b1, off + k * 8 + 2, none⟩ = some (.int .i64 x.tk) := fun p => (p.h.cell (by have := hb.out.size; simp; omega)).trans c2
        have X3 : ∀ p : BelowBy wr.heap.size wr, p.x.cell? ⟨b1, off + k * 8 + 3, none⟩ = some (.int .i64 x.tm) := fun p => (p.h.cell (by have := hb.out.size; simp; omega)).trans c3
        have X4 : ∀ p : BelowBy wr.heap.size wr, p.x.cell? ⟨b1, off + k * 8 + 4, none⟩ = some (.bool x.nl) := fun p => (p.h.cell (by have := hb.out.size; simp; omega)).trans c4
        have X5 : ∀ p : BelowBy wr.heap.size wr, p.x.cell? ⟨b1, off + k * 8 + 5, none⟩ = some (.int .i64 x.dk) := fun p => (p.h.cell (by have := hb.out.size; simp; omega)).trans c5
        have X6 : ∀ p : BelowBy wr.heap.size wr, p.x.cell? ⟨b1, off + k * 8 + 6, none⟩ = some (.int .i64 x.dn) := fun p => (p.h.cell (by have := hb.out.size; simp; omega)).trans c6
        have X7 : ∀ p : BelowBy wr.heap.size wr, p.x.cell? ⟨b1, off + k * 8 + 7, none⟩ = some (.string x.ds) := fun p => (p.h.cell (by have := hb.out.size; simp; omega)).trans c7
        have Y0 : ∀ p : BelowBy wr.heap.size wr, p.x.cell? ⟨b2, off2 + k * 8, none⟩ = some (.int .i64 y.id) := fun p => (p.h.cell (by have := hb.out.size; simp; omega)).trans d0
        have Y1 : ∀ p : BelowBy wr.heap.size wr, p.x.cell? ⟨b2, off2 + k * 8 + 1, none⟩ = some (.string y.nm) := fun p => (p.h.cell (by have := hb.out.size; simp; omega)).trans d1
        have Y2 : ∀ p : BelowBy wr.heap.size wr, p.x.cell? ⟨b2, off2 + k * 8 + 2, none⟩ = some (.int .i64 y.tk) := fun p => (p.h.cell (by have := hb.out.size; simp; omega)).trans d2
        have Y3 : ∀ p : BelowBy wr.heap.size wr, p.x.cell? ⟨b2, off2 + k * 8 + 3, none⟩ = some (.int .i64 y.tm) := fun p => (p.h.cell (by have := hb.out.size; simp; omega)).trans d3
        have Y4 : ∀ p : BelowBy wr.heap.size wr, p.x.cell? ⟨b2, off2 + k * 8 + 4, none⟩ = some (.bool y.nl) := fun p => (p.h.cell (by have := hb.out.size; simp; omega)).trans d4
        have Y5 : ∀ p : BelowBy wr.heap.size wr, p.x.cell? ⟨b2, off2 + k * 8 + 5, none⟩ = some (.int .i64 y.dk) := fun p => (p.h.cell (by have := hb.out.size; simp; omega)).trans d5
        have Y6 : ∀ p : BelowBy wr.heap.size wr, p.x.cell? ⟨b2, off2 + k * 8 + 6, none⟩ = some (.int .i64 y.dn) := fun p => (p.h.cell (by have := hb.out.size; simp; omega)).trans d6
        have Y7 : ∀ p : BelowBy wr.heap.size wr, p.x.cell? ⟨b2, off2 + k * 8 + 7, none⟩ = some (.string y.ds) := fun p => (p.h.cell (by have := hb.out.size; simp; omega)).trans d7
        have q : ∀ w, (binOp .neq 56 (CV x) (CV y)).run Tryz.prog w = .ok (.bool (!eqC x y)) w := fun w => run_neq_C w x y
        have hk0 : (0 : Int) ≤ (k : Int) := by omega
        clear hx hy c0 c1 c2 c3 c4 c5 c6 c7 d0 d1 d2 d3 d4 d5 d6 d7
        cases hp : eqC x y
        · have Hno : Hid (tf (Pair eqC a b) = false) := pair_stop Hx.out Hy.out hp
          rw [hp] at q
          clear hp
          go_wp2_with fail
          refine wp_region_below wr.heap.size (by kernel_rfl) (by kernel_rfl) ?_
          repeat (
            with_reducible refine wpQuiet_step (fun K hK => ?_)
            go_simp
            refine hK _ ?_
            clear hK K)
          refine wpQuiet_nil ?_
          rintro _ ⟨p, rfl⟩
          go_wp2_with fail
          go_ret
          exact ⟨by rw [Hno.out]; rfl, bthen hb.out p.h⟩
        · have Hall : Hid (∀ j x y, a[j]? = some x → b[j]? = some y → j < k + 1 → eqC x y = true) := fun j x' y' hj hj2 hk => by
            by_cases e : j = k
            · subst e
              rw [Hx.out] at hj; cases hj
              rw [Hy.out] at hj2; cases hj2
              exact hp
            · exact hall.out j x' y' hj hj2 (by omega)
          rw [hp] at q
          clear hp
          go_wp2_with fail
          refine wp_region_below wr.heap.size (by kernel_rfl) (by kernel_rfl) ?_
          repeat (
            with_reducible refine wpQuiet_step (fun K hK => ?_)
            go_simp
            refine hK _ ?_
            clear hK K)
          refine wpQuiet_nil ?_
          rintro _ ⟨p, rfl⟩
          go_wp2_with fail
          go_roundw
          case rel => exact ⟨k + 1, by omega, by go_num, Hall.out, bthen hb.out p.h⟩
          case measure => simp [intOf]; omega
      · have Hyes : Hid (tf (Pair eqC a b) = true) := tf_yes ⟨Hlen.out, fun j x y hx hy => hall.out j x y hx hy (by have := (List.getElem?_eq_some_iff.1 hx).1; omega)⟩
        go_wp2_with fail
        go_ret
        exact ⟨by rw [Hyes.out]; rfl, hb.out⟩
  · have hneq : ((a.length : Int) != (b.length : Int)) = true := by simp; omega
    have heql : ((a.length : Int) == (b.length : Int)) = false := by simp; omega
    have Hno : Hid (tf (Pair eqC a b) = false) := tf_no fun h => hlen h.1
    clear hlen
    go_enter Tryz.func36, Tryz.ntmps36
    go_wp2_with fail
    go_ret
    exact ⟨by rw [Hno.out]; rfl, Below.refl _ _⟩
theorem box_two (w : World) (u v : Value) (ty : TypeId) : ∃ w0, (w.alloc (.cells #[u] ty)).alloc (.cells #[v] ty) = w0 ∧ Below w.heap.size w w0 ∧ w0.cell? ⟨w.heap.size, 0, none⟩ = some u ∧ w0.cell? ⟨w.heap.size + 1, 0, none⟩ = some v ∧ w0.heap.size = w.heap.size + 2 :=
  ⟨_, rfl, below_two w _ _, keep_alloc (by simp) _, by simp, by simp⟩
end Go.Proofs.YtebldfnocpcddaaGreatDoor

/-
  Contracts of the law's own short, Few, FewAll, FewValues, FewFields and found of layer 8.
-/
namespace Go.Proofs.YtebldfnocpcddaaGreatDoor
open Go.RowKit

def shortB (s : ByteArray) : Bool := decide ((s.size : Int) ≤ 200)
theorem short8_any (s : ByteArray) (w : World) : Calls Tryz.prog 37 #[.string s] w fun e w' => e = .returned (.bool (shortB s)) ∧ w = w' := by
  go_enter Tryz.func37, Tryz.ntmps37
  go_wp2_with fail
  go_ret
  exact ⟨rfl, rfl⟩
def fewT (t : Tb) : Bool := decide ((t.cols.length : Int) ≤ 20) && (shortB t.nm && t.cols.all fun c => shortB c.nm && shortB c.ds)
def fewCat (l : List Tb) : Bool := decide ((l.length : Int) ≤ 10) && l.all fewT
def fewV (l : List Vb) : Bool := decide ((l.length : Int) ≤ 20) && l.all fun v => shortB v.2.2
def fewF (l : List Fb) : Bool := decide ((l.length : Int) ≤ 20) && l.all fun f => shortB f.nm && shortB f.s
theorem all_stop8 {α : Type} {p : α → Bool} {l : List α} {k : Nat} {x : α} (hx : l[k]? = some x) (h : p x = false) : l.all p = false := by
  cases e : l.all p with
  | false => rfl
  | true =>
    rw [List.all_eq_true] at e
    have := e x (List.mem_of_getElem? hx)
    rw [h] at this; cases this
theorem shortB_iff {s : ByteArray} : shortB s = true ↔ s.size ≤ 200 := by unfold shortB; rw [decide_eq_true_iff]; omega
theorem WfT_of {w : World} {t : Tb} (h : fewT t = true) (hi : InT w t) : WfT t := by
  unfold fewT at h
  simp only [Bool.and_eq_true, decide_eq_true_eq, List.all_eq_true, shortB_iff] at h
  obtain ⟨_, _, _, _, _, h6, _, h8⟩ := hi
  refine ⟨by omega, by omega, h6, fun c hc => ?_⟩
  have := h.2.2 c hc
  have hr := wf64 (h8 c hc).2.2.2.2.2.1
  exact ⟨by omega, hr.1, hr.2⟩

set_option maxRecDepth 100000 in
set_option maxHeartbeats 1600000 in
theorem few8_any (t : Tb) (w : World) (hA : TabAt w w.heap.size t) (hl : t.cols.length ≤ maxLen) :
    Calls Tryz.prog 18 #[TV t] w fun e w' => e = .returned (.bool (fewT t)) ∧ Below w.heap.size w w' := by
  unfold maxLen at hl
  obtain ⟨w0, hw0, hb0, hB, hs0⟩ := box_tab w t
  have Hw0 := Lib.hid hw0; clear hw0
  have Hb0 := Lib.hid hb0
  have HA := Lib.hid (RowAt.to hA hb0); clear hA hb0
  have HB := Lib.hid hB; clear hB
  have Hs0 := Lib.hid hs0; clear hs0
  have HN := Lib.hid (fun w => short8_any t.nm w)
  have Hv : Hid (fewT t = (decide ((t.cols.length : Int) ≤ 20) && (shortB t.nm && t.cols.all fun c => shortB c.nm && shortB c.ds))) := rfl
  have e1 : decide (20 < (t.cols.length : Int)) = !decide ((t.cols.length : Int) ≤ 20) := by apply bool_eq; simp
  generalize decide ((t.cols.length : Int) ≤ 20) = b1 at Hv e1
  generalize shortB t.nm = b2 at Hv HN
  cases b1
  · replace e1 : decide (20 < (t.cols.length : Int)) = true := e1
    go_enter Tryz.func18, Tryz.ntmps18
    go_wp2_with fail
    go_ret
    exact ⟨by rw [Hv.out]; rfl, by go_grown⟩
  replace e1 : decide (20 < (t.cols.length : Int)) = false := e1
  cases b2
  · go_enter Tryz.func18, Tryz.ntmps18
    go_wp2_with fail
    refine (HN.out _).mono ?_
    rintro e w1 ⟨rfl, rfl⟩
    go_wp2_with fail
    go_ret
    exact ⟨by rw [Hv.out]; rfl, by go_grown⟩
  replace Hv : Hid (fewT t = t.cols.all fun c => shortB c.nm && shortB c.ds) := by show _ = _; rw [Hv.out]; simp
  go_enter Tryz.func18, Tryz.ntmps18
  go_wp2_with fail
  refine (HN.out _).mono ?_
  rintro e w1 ⟨rfl, rfl⟩
  go_wp2_with fail
  rw [Hw0.out]
  clear e1 HN
  obtain ⟨c0, c1, c2, c3, c4⟩ := HB.out.tab
  have Hc4 := Lib.hid c4; clear c0 c1 c2 c3 c4
  go_loop [3] (fun i => ∃ k : Nat, k ≤ t.cols.length ∧ i = .int .i64 k ∧ Hid (∀ j c, t.cols[j]? = some c → j < k → (shortB c.nm && shortB c.ds) = true)) (fun i => t.cols.length - (intOf i).toNat)
  case atStart => exact ⟨0, by omega, rfl, fun j v _ h => absurd h (by omega)⟩
  case round =>
    obtain ⟨k, hk, rfl, hall⟩ := hrel
    by_cases hlt : k < t.cols.length
    · obtain ⟨x, hx⟩ : ∃ x, t.cols[k]? = some x := ⟨t.cols[k], by simp [hlt]⟩
      have Hx := Lib.hid hx
      obtain ⟨b, off, hAe, hbB, d0, d1, d2, d3, d4, d5, d6, d7⟩ := ColsAt.get HA.out k x hx
      have c4 : w0.cell? ⟨w.heap.size, 4, none⟩ = some (.slice (some ⟨b, off, none⟩) t.cols.length t.cap) := by rw [← hAe]; exact Hc4.out
      clear hAe hx
      have HN1 := Lib.hid (fun w => short8_any x.nm w)
      have HN2 := Lib.hid (fun w => short8_any x.ds w)
      cases h1 : shortB x.nm
      · have Hno : Hid ((t.cols.all fun c => shortB c.nm && shortB c.ds) = false) := all_stop8 Hx.out (by rw [h1]; rfl)
        rw [h1] at HN1
        go_wp2_with fail
        refine (HN1.out _).mono ?_
        rintro e w1 ⟨rfl, rfl⟩
        go_wp2_with fail
        go_ret
        exact ⟨by rw [Hv.out, Hno.out]; rfl, Hb0.out⟩
      · rw [h1] at HN1
        cases h2 : shortB x.ds
        · have Hno : Hid ((t.cols.all fun c => shortB c.nm && shortB c.ds) = false) := all_stop8 Hx.out (by rw [h1, h2]; rfl)
          rw [h2] at HN2
          go_wp2_with fail
          refine (HN1.out _).mono ?_
          rintro e w1 ⟨rfl, rfl⟩
          go_wp2_with fail
          refine (HN2.out _).mono ?_
          rintro e w1 ⟨rfl, rfl⟩
          go_wp2_with fail
          go_ret
          exact ⟨by rw [Hv.out, Hno.out]; rfl, Hb0.out⟩
        · have Hall : Hid (∀ j c, t.cols[j]? = some c → j < k + 1 → (shortB c.nm && shortB c.ds) = true) := fun j y hj hk => by
            by_cases e : j = k
            · subst e
              rw [Hx.out] at hj
              cases hj
              rw [h1, h2]; rfl
            · exact hall.out j y hj (by omega)
          rw [h2] at HN2
          go_wp2_with fail
          refine (HN1.out _).mono ?_
          rintro e w1 ⟨rfl, rfl⟩
          go_wp2_with fail
          refine (HN2.out _).mono ?_
          rintro e w1 ⟨rfl, rfl⟩
          go_wp2_with fail
          go_round
          case rel => exact ⟨k + 1, by omega, by go_num, Hall.out⟩
          case measure => simp [intOf]; omega
    · have c4 := Hc4.out
      have Hyes : Hid ((t.cols.all fun c => shortB c.nm && shortB c.ds) = true) := all_at fun j x hj => hall.out j x hj (by have := (List.getElem?_eq_some_iff.1 hj).1; omega)
      go_wp2_with fail
      go_ret
      exact ⟨by rw [Hv.out, Hyes.out]; rfl, Hb0.out⟩

end Go.Proofs.YtebldfnocpcddaaGreatDoor

/-
  Contracts of package schema's generic 'all' and of the function literal of 'distinct', at tables and columns.
-/
namespace Go.Proofs.YtebldfnocpcddaaGreatDoor
open Go.RowKit

end Go.Proofs.YtebldfnocpcddaaGreatDoor

/-
  Contract of package schema's generic 'distinct', at tables and columns.
-/
namespace Go.Proofs.YtebldfnocpcddaaGreatDoor
open Go.RowKit

theorem dist_more {α : Type} {idf : α → Int} {nmf : α → ByteArray} {l : List α} {k : Nat} {x : α} (h : ∀ j, j < k → OkAt idf nmf l j) (hx : l[k]? = some x) (h1 : ∀ y, 0 < k → l[k - 1]? = some y → idf y < idf x)
    (h2 : ((l.take k).findIdx? fun y => eqS (nmf y) (nmf x)) = none) : ∀ j, j < k + 1 → OkAt idf nmf l j := fun j hj => by
  by_cases e : j = k
  · subst e
    intro z hz
    rw [hx] at hz; cases hz
    refine ⟨h1, fun i y hi hy e => ?_⟩
    rw [List.findIdx?_eq_none_iff] at h2
    have := h2 y (List.mem_of_getElem? (i := i) (by rw [List.getElem?_take]; simp [hi, hy]))
    rw [eqS_iff.2 e] at this; cases this
  · exact h j (by omega)
theorem dist_name {α : Type} {idf : α → Int} {nmf : α → ByteArray} {l : List α} {k q : Nat} {x : α} (hx : l[k]? = some x) (h2 : ((l.take k).findIdx? fun y => eqS (nmf y) (nmf x)) = some q) : ¬ Dist idf nmf l := fun h => by
  obtain ⟨y, h3, h4, _⟩ := find_some h2
  rw [List.getElem?_take] at h3
  split at h3
  · exact (h k (List.getElem?_eq_some_iff.1 hx).1 x hx).2 q y (by assumption) h3 (eqS_iff.1 h4)
  · cases h3
theorem dist_id {α : Type} {idf : α → Int} {nmf : α → ByteArray} {l : List α} {j : Nat} {x y : α} (hx : l[j + 1]? = some x) (hy : l[j]? = some y) (h2 : idf x ≤ idf y) : ¬ Dist idf nmf l := fun h => by
  have := (h (j + 1) (List.getElem?_eq_some_iff.1 hx).1 x hx).1 y (by omega) (by simpa using hy)
  omega
end Go.Proofs.YtebldfnocpcddaaGreatDoor

/-
  Contracts of package schema's rightColumns, rightKey, RightTable and Right.
-/
namespace Go.Proofs.YtebldfnocpcddaaGreatDoor
open Go.RowKit

end Go.Proofs.YtebldfnocpcddaaGreatDoor

/-
  Contracts of package schema's RightTable and Right.
-/
namespace Go.Proofs.YtebldfnocpcddaaGreatDoor
open Go.RowKit

end Go.Proofs.YtebldfnocpcddaaGreatDoor
