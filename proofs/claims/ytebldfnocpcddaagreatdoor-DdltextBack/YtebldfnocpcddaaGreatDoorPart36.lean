/-
  Texts that the proof needs, one behind the other: DdlSameMath, DdlColC, DdlChcolC, DdlChangeC, DdlPlain2C, DdlApplyC, DdlFewC.
-/
import Derived.Test.YtebldfnocpcddaaGreatDoorPart8
import Derived.Test.YtebldfnocpcddaaGreatDoorPart35
import Derived.Test.YtebldfnocpcddaaGreatDoorPart12
import Derived.Test.YtebldfnocpcddaaGreatDoorPart16
import Derived.Test.YtebldfnocpcddaaGreatDoorPart1

/-
  When two changes are alike; what a change of its kind keeps of another one (layer 9).
-/
namespace Go.Proofs.YtebldfnocpcddaaGreatDoor
open Go.RowKit

/-- a cell's fact at every world behind -/
theorem keepP {w : World} {ad : Addr} {v : Value} (h : w.cell? ad = some v) : ∀ p : BelowBy w.heap.size w, p.x.cell? ad = some v := fun p => (p.h.cell (World.block_lt_of_cell? w ad h)).trans h
theorem toList_eqB {a b : ByteArray} : a.toList = b.toList ↔ a = b := ⟨fun h => eqS_iff.1 (beq_iff_eq.2 h), fun h => by rw [h]⟩
theorem sameD_iff (a b : Db) : sameD a b = true ↔ a.p.op = b.p.op ∧ a.p.tb = b.p.tb ∧ a.p.co = b.p.co ∧ a.p.to = b.p.to ∧ a.p.key = b.p.key ∧ a.p.tk = b.p.tk ∧ a.p.tm = b.p.tm ∧ a.p.nl = b.p.nl ∧ a.p.dk = b.p.dk ∧ a.p.dn = b.p.dn ∧ a.p.ds = b.p.ds ∧ Pair eqC a.p.cols b.p.cols := by
  unfold sameD
  simp only [Bool.and_eq_true, beq_iff_eq, toList_eqB, tf_iff]
theorem eqP_iff (a b : Pp) : eqP a b = true ↔ a.op = b.op ∧ a.tb = b.tb ∧ a.co = b.co ∧ a.to = b.to ∧ a.key = b.key ∧ a.tk = b.tk ∧ a.tm = b.tm ∧ a.nl = b.nl ∧ a.dk = b.dk ∧ a.dn = b.dn ∧ a.ds = b.ds ∧ a.n = b.n := by
  unfold eqP
  simp only [Bool.and_eq_true, beq_iff_eq, toList_eqB]
theorem eqP_same (a b : Db) : (eqP a.parts b.parts && tf (Pair eqC a.p.cols b.p.cols)) = sameD a b := by
  apply bool_eq
  rw [sameD_iff, Bool.and_eq_true, eqP_iff, tf_iff]
  constructor
  · rintro ⟨⟨h1, h2, h3, h4, h5, h6, h7, h8, h9, h10, h11, _⟩, h⟩
    exact ⟨h1, h2, h3, h4, h5, h6, h7, h8, h9, h10, h11, h⟩
  · rintro ⟨h1, h2, h3, h4, h5, h6, h7, h8, h9, h10, h11, h⟩
    exact ⟨⟨h1, h2, h3, h4, h5, h6, h7, h8, h9, h10, h11, by show (a.p.cols.length : Int) = b.p.cols.length; rw [h.1]⟩, h⟩
theorem sameD_self (a : Db) : sameD a a = true := (sameD_iff a a).2 ⟨rfl, rfl, rfl, rfl, rfl, rfl, rfl, rfl, rfl, rfl, rfl, tf_iff.1 (pair_self eqC_self _)⟩
theorem eqP_self (a : Db) : (eqP a.parts a.parts && tf (Pair eqC a.p.cols a.p.cols)) = true := by rw [eqP_same, sameD_self]
theorem pair_nil (l : List Cb) : Pair eqC [] l ↔ l = [] := by
  constructor
  · rintro ⟨h, _⟩
    exact List.eq_nil_of_length_eq_zero h.symm
  · rintro rfl
    exact ⟨rfl, fun j x y h _ => by simp at h⟩
theorem pair_refl (l : List Cb) : Pair eqC l l := tf_iff.1 (pair_self eqC_self l)
theorem nul_iff {k n : Int} {s : ByteArray} : nulV k n s = true ↔ k = 0 ∧ n = 0 ∧ s = ByteArray.empty := by
  unfold nulV
  simp only [Bool.and_eq_true, beq_iff_eq, toList_eqB]
theorem emp_iff {s : ByteArray} : emp s = true ↔ s = ByteArray.empty := by unfold emp; rw [eqS_iff]
theorem zTy_iff {d : Dp} : zTy d = true ↔ d.tk = 0 ∧ d.tm = 0 := by unfold zTy; simp only [Bool.and_eq_true, beq_iff_eq]
theorem zDf_iff {d : Dp} : zDf d = true ↔ d.dk = 0 ∧ d.dn = 0 ∧ d.ds = ByteArray.empty := by unfold zDf; rw [nul_iff]
theorem zCo_iff {d : Dp} : zCo d = true ↔ d.cols = [] := by unfold zCo; rw [List.isEmpty_iff]
theorem nl_iff {b : Bool} : (!b) = true ↔ b = false := by cases b <;> simp
abbrev bEmp : ByteArray := ByteArray.empty
/-- what a change of its kind has of another one -/
def keptD (d : Dp) : Dp :=
  if d.op = 1 then ⟨d.op, d.tb, bEmp, bEmp, d.key, 0, 0, false, 0, 0, bEmp, d.cols⟩
  else if d.op = 2 then ⟨d.op, d.tb, bEmp, bEmp, bEmp, 0, 0, false, 0, 0, bEmp, []⟩
  else if d.op = 3 then ⟨d.op, d.tb, bEmp, d.to, bEmp, 0, 0, false, 0, 0, bEmp, []⟩
  else if d.op = 4 then ⟨d.op, d.tb, d.co, bEmp, bEmp, d.tk, d.tm, d.nl, d.dk, d.dn, d.ds, []⟩
  else if d.op = 5 then ⟨d.op, d.tb, d.co, bEmp, bEmp, 0, 0, false, 0, 0, bEmp, []⟩
  else if d.op = 6 then ⟨d.op, d.tb, d.co, d.to, bEmp, 0, 0, false, 0, 0, bEmp, []⟩
  else if d.op = 7 then ⟨d.op, d.tb, d.co, bEmp, bEmp, d.tk, d.tm, false, 0, 0, bEmp, []⟩
  else ⟨d.op, d.tb, d.co, bEmp, bEmp, 0, 0, false, d.dk, d.dn, d.ds, []⟩
theorem kept_plain (d : Db) (x : Db) (hx : x.p = keptD d.p) (h : d.p.op = 1 ∨ d.p.op = 2 ∨ d.p.op = 3 ∨ d.p.op = 4 ∨ d.p.op = 5 ∨ d.p.op = 6 ∨ d.p.op = 7 ∨ d.p.op = 8) (h1 : d.p.op = 1 → (d.p.cols.all fun c => c.id == 0) = true) : sameD x d = plainD d.p := by
  apply bool_eq
  rw [sameD_iff, hx]
  unfold keptD plainD
  rcases h with e | e | e | e | e | e | e | e
  · have h0 := h1 e
    rw [if_pos e, if_pos e, h0]
    simp only [Bool.and_eq_true, emp_iff, zTy_iff, zDf_iff, nl_iff]
    constructor
    · rintro ⟨_, _, a, b, _, c, f, g, i, j, k, _⟩
      exact ⟨a.symm, b.symm, ⟨c.symm, f.symm⟩, g.symm, ⟨i.symm, j.symm, k.symm⟩, trivial⟩
    · rintro ⟨a, b, ⟨c, f⟩, g, ⟨i, j, k⟩, _⟩
      exact ⟨trivial, trivial, a.symm, b.symm, trivial, c.symm, f.symm, g.symm, i.symm, j.symm, k.symm, pair_refl _⟩
  all_goals
    simp only [e, if_pos, reduceIte, Int.reduceEq]
    simp only [Bool.and_eq_true, emp_iff, zTy_iff, zDf_iff, zCo_iff, nl_iff, pair_nil, true_and, and_assoc, eq_comm (a := bEmp), eq_comm (a := (0 : Int)), eq_comm (a := false)]
end Go.Proofs.YtebldfnocpcddaaGreatDoor

/-
  Contracts of package ddl's changes of a column: preset, widen, call, cut.
-/
namespace Go.Proofs.YtebldfnocpcddaaGreatDoor
open Go.RowKit

theorem box_v (w : World) (k n : Int) (s : ByteArray) : ∃ w0, w.alloc (.cells #[.int .i64 k, .int .i64 n, .string s] 25) = w0 ∧ Below w.heap.size w w0 ∧ w0.heap.size = w.heap.size + 1 ∧
    BlkN w0 w.heap.size [.int .i64 k, .int .i64 n, .string s] :=
  ⟨_, rfl, below_one w _, by simp, BlkN.new w _ [.int .i64 k, .int .i64 n, .string s] _ rfl⟩
theorem box_t (w : World) (k m : Int) : ∃ w0, w.alloc (.cells #[.int .i64 k, .int .i64 m] 23) = w0 ∧ Below w.heap.size w w0 ∧ w0.heap.size = w.heap.size + 1 ∧
    BlkN w0 w.heap.size [.int .i64 k, .int .i64 m] :=
  ⟨_, rfl, below_one w _, by simp, BlkN.new w _ [.int .i64 k, .int .i64 m] _ rfl⟩
theorem BlkN.v3 {w : World} {b : Nat} {x y z : Value} (h : BlkN w b [x, y, z]) : w.cell? ⟨b, 0, none⟩ = some x ∧ w.cell? ⟨b, 1, none⟩ = some y ∧ w.cell? ⟨b, 2, none⟩ = some z := ⟨h 0 _ rfl, h 1 _ rfl, h 2 _ rfl⟩
theorem BlkN.v2 {w : World} {b : Nat} {x y : Value} (h : BlkN w b [x, y]) : w.cell? ⟨b, 0, none⟩ = some x ∧ w.cell? ⟨b, 1, none⟩ = some y := ⟨h 0 _ rfl, h 1 _ rfl⟩
/-- a Default stored in its place -/
theorem OwnR.setD {w : World} {B g cap j : Nat} {l : List Cb} {c : Cb} (h : OwnC w B (.slice (some ⟨g, 0, none⟩) l.length cap) l) (hj : l[j]? = some c) (k n : Int) (s : ByteArray) :
    OwnC (((w.setCell ⟨g, j * 8 + 5, none⟩ (.int .i64 k)).setCell ⟨g, j * 8 + 6, none⟩ (.int .i64 n)).setCell ⟨g, j * 8 + 7, none⟩ (.string s)) B (.slice (some ⟨g, 0, none⟩) l.length cap) (l.set j { c with dk := k, dn := n, ds := s }) := by
  have hl := (List.getElem?_eq_some_iff.1 hj).1
  have h1 := h.set1 lenC (k := j) (i := 5) (x := c) (y := { c with dk := k }) (u := .int .i64 k) hj (by omega) rfl
  rw [show l.length = (l.set j { c with dk := k }).length by simp] at h1
  have h2 := h1.set1 lenC (k := j) (i := 6) (x := { c with dk := k }) (y := { c with dk := k, dn := n }) (u := .int .i64 n) (List.getElem?_set_self hl) (by omega) rfl
  rw [List.set_set, List.length_set] at h2
  rw [show l.length = (l.set j { c with dk := k, dn := n }).length by simp] at h2
  have h3 := h2.set1 lenC (k := j) (i := 7) (x := { c with dk := k, dn := n }) (y := { c with dk := k, dn := n, ds := s }) (u := .string s) (List.getElem?_set_self hl) (by omega) rfl
  rw [List.set_set, List.length_set] at h3
  exact h3
theorem OwnR.setT {w : World} {B g cap j : Nat} {l : List Cb} {c : Cb} (h : OwnC w B (.slice (some ⟨g, 0, none⟩) l.length cap) l) (hj : l[j]? = some c) (k m : Int) :
    OwnC ((w.setCell ⟨g, j * 8 + 2, none⟩ (.int .i64 k)).setCell ⟨g, j * 8 + 3, none⟩ (.int .i64 m)) B (.slice (some ⟨g, 0, none⟩) l.length cap) (l.set j { c with tk := k, tm := m }) := by
  have hl := (List.getElem?_eq_some_iff.1 hj).1
  have h1 := h.set1 lenC (k := j) (i := 2) (x := c) (y := { c with tk := k }) (u := .int .i64 k) hj (by omega) rfl
  rw [show l.length = (l.set j { c with tk := k }).length by simp] at h1
  have h2 := h1.set1 lenC (k := j) (i := 3) (x := { c with tk := k }) (y := { c with tk := k, tm := m }) (u := .int .i64 m) (List.getElem?_set_self hl) (by omega) rfl
  rw [List.set_set, List.length_set] at h2
  exact h2
theorem off_set3 (w : World) (g a b c : Nat) (x y z : Value) : Off (fun k => k = g) w (((w.setCell ⟨g, a, none⟩ x).setCell ⟨g, b, none⟩ y).setCell ⟨g, c, none⟩ z) := ((Off.set w g a x).trans (Off.set _ g b y)).trans (Off.set _ g c z)
def presE (c : Cb) (k n : Int) (s : ByteArray) : Int := if presetD c.tk c.tm k n s = true then 0 else 10
def widE (c : Cb) (tk tm : Int) : Int := if rightT tk tm = true then (if wideT tk tm c.tk c.tm = true then 0 else 16) else 9
theorem cast_ok {c : Cb} {tk tm : Int} (hc : presetD c.tk c.tm c.dk c.dn c.ds = true) (hw : wideT tk tm c.tk c.tm = true) (h1 : -9223372036854775808 ≤ c.dn) (h2 : c.dn < 9223372036854775808) :
    castR c.dk c.dn c.ds tk tm = .tuple #[VV (castC tk tm c).dk (castC tk tm c).dn (castC tk tm c).ds, .int .i64 0] ∧ (castC tk tm c) = { c with tk := tk, tm := tm, dk := (castC tk tm c).dk, dn := (castC tk tm c).dn, ds := (castC tk tm c).ds } := by
  have hr : rightT tk tm = true := by unfold wideT at hw; simp only [Bool.and_eq_true] at hw; exact hw.1.1.1
  unfold castC
  by_cases hn : nulV c.dk c.dn c.ds = true
  · rw [if_pos hn]
    refine ⟨?_, rfl⟩
    have hn' := hn
    unfold nulV at hn'
    rw [Bool.and_eq_true, Bool.and_eq_true] at hn'
    obtain ⟨e1, e2, e3⟩ := hn'
    rw [beq_iff_eq] at e1 e2
    rw [e1, e2, eqS_iff.1 e3]
    unfold castR
    rw [show rightV 0 0 (bs ByteArray.empty) = true by unfold rightV; rfl, hr]
    rfl
  · rw [if_neg hn]
    refine ⟨?_, rfl⟩
    unfold presetD at hc
    simp only [Bool.or_eq_true] at hc
    rcases hc with h | h
    · exact absurd h hn
    · exact (widen hw h h1 h2).1
theorem boxA {w2 w3 : World} (h : Below w2.heap.size w2 w3) {a' b' c' : Value} (y0 : w3.cell? ⟨w2.heap.size, 0, none⟩ = some a') (y1 : w3.cell? ⟨w2.heap.size, 1, none⟩ = some b') (y2 : w3.cell? ⟨w2.heap.size, 2, none⟩ = some c') (a b c : Value) :
    ∃ W, ((w3.setCell ⟨w2.heap.size, 0, none⟩ a).setCell ⟨w2.heap.size, 1, none⟩ b).setCell ⟨w2.heap.size, 2, none⟩ c = W ∧ Below w2.heap.size w2 W ∧ W.cell? ⟨w2.heap.size, 0, none⟩ = some a ∧ W.cell? ⟨w2.heap.size, 1, none⟩ = some b ∧ W.cell? ⟨w2.heap.size, 2, none⟩ = some c := by
  have n01 : (⟨w2.heap.size, 0, none⟩ : Addr) ≠ ⟨w2.heap.size, 1, none⟩ := by simp
  have n02 : (⟨w2.heap.size, 0, none⟩ : Addr) ≠ ⟨w2.heap.size, 2, none⟩ := by simp
  have n12 : (⟨w2.heap.size, 1, none⟩ : Addr) ≠ ⟨w2.heap.size, 2, none⟩ := by simp
  refine ⟨_, rfl, bput (bput (bput h (Nat.le_refl _) 0 a) (Nat.le_refl _) 1 b) (Nat.le_refl _) 2 c, ?_, ?_, ?_⟩
  · rw [World.cell?_setCell_other _ _ _ _ n02.symm, World.cell?_setCell_other _ _ _ _ n01.symm, World.cell?_setCell_same _ _ _ y0]
  · rw [World.cell?_setCell_other _ _ _ _ n12.symm, World.cell?_setCell_same _ _ _ (by rw [World.cell?_setCell_other _ _ _ _ n01]; exact y1)]
  · rw [World.cell?_setCell_same _ _ _ (by rw [World.cell?_setCell_other _ _ _ _ n12, World.cell?_setCell_other _ _ _ _ n02]; exact y2)]
theorem boxB {w2 w3 : World} (h : Below w2.heap.size w2 w3) (a b c : Value) :
    ∃ W, w3.alloc (.cells #[a, b, c] 25) = W ∧ Below w2.heap.size w2 W ∧ W.cell? ⟨w3.heap.size, 0, none⟩ = some a ∧ W.cell? ⟨w3.heap.size, 1, none⟩ = some b ∧ W.cell? ⟨w3.heap.size, 2, none⟩ = some c :=
  ⟨_, rfl, bthen h (below_one w3 _), by simp, by simp, by simp⟩
end Go.Proofs.YtebldfnocpcddaaGreatDoor

/-
  Contract of package ddl's changeColumn.
-/
namespace Go.Proofs.YtebldfnocpcddaaGreatDoor
open Go.RowKit

theorem map_set {l : List Cb} (hp : l.Pairwise (Apart Cb.id Cb.nm)) {j : Nat} {c : Cb} (hj : l[j]? = some c) {s : ByteArray} (hs : c.nm = s) (f : Cb → Cb) : (l.map fun x => if eqS x.nm s = true then f x else x) = l.set j (f c) := by
  refine List.ext_getElem? fun i => ?_
  obtain ⟨hjl, hjc⟩ := List.getElem?_eq_some_iff.1 hj
  rw [List.getElem?_map, List.getElem?_set]
  by_cases h : j = i
  · subst h
    rw [if_pos rfl, if_pos hjl, hj]
    simp only [Option.map_some]
    rw [if_pos (eqS_iff.2 hs)]
  · rw [if_neg h]
    cases hx : l[i]? with
    | none => rfl
    | some x =>
      simp only [Option.map_some]
      obtain ⟨hil, hic⟩ := List.getElem?_eq_some_iff.1 hx
      rw [List.pairwise_iff_getElem] at hp
      have hne : x.nm ≠ s := fun e => by
        rcases Nat.lt_or_gt_of_ne h with h1 | h1
        · exact (hp j i hjl hil h1).2 (by rw [hjc, hic, hs, e])
        · exact (hp i j hil hjl h1).2 (by rw [hjc, hic, hs, e])
      rw [if_neg (fun e => hne (eqS_iff.1 e))]
theorem filter_erase : ∀ {l : List Cb}, l.Pairwise (Apart Cb.id Cb.nm) → ∀ {j : Nat} {c : Cb}, l[j]? = some c → ∀ {s : ByteArray}, c.nm = s → (l.filter fun x => !eqS x.nm s) = l.eraseIdx j
  | [], _, j, c, h, _, _ => by simp at h
  | a :: r, hp, 0, c, h, s, hs => by
    simp at h; subst h
    rw [List.pairwise_cons] at hp
    rw [List.filter_cons, if_neg (by rw [eqS_iff.2 hs]; simp), List.eraseIdx_cons_zero, List.filter_eq_self]
    intro x hx
    cases e : eqS x.nm s with
    | false => rfl
    | true => exact absurd (hs.trans (eqS_iff.1 e).symm) (hp.1 x hx).2
  | a :: r, hp, j + 1, c, h, s, hs => by
    rw [List.pairwise_cons] at hp
    have hc : r[j]? = some c := by simpa using h
    have hne : eqS a.nm s = false := by
      cases e : eqS a.nm s with
      | false => rfl
      | true => exact absurd ((eqS_iff.1 e).trans hs.symm) (hp.1 c (List.mem_of_getElem? hc)).2
    rw [List.filter_cons, if_pos (by rw [hne]; rfl), List.eraseIdx_cons_succ, filter_erase hp.2 hc hs]
/-- the error of a change of a column that is there -/
def colE (t : Tb) (c : Cb) (d : Dp) : Int := if d.op = 5 then cutE t c else if d.op = 6 then callE t.cols d.to else if d.op = 7 then widE c d.tk d.tm else presE c d.dk d.dn d.ds
theorem wrong_col {L : List Tp} {t : Tb} {d : Dp} (hop : d.op = 5 ∨ d.op = 6 ∨ d.op = 7 ∨ d.op = 8) : wrongE L t.p d = match colV t.cols d.co with
    | none => 13
    | some c => colE t c d := by
  unfold wrongE
  rw [if_neg (by omega), if_neg (by omega), if_neg (by omega)]
  rw [show t.p.cols = t.cols from rfl, show t.p.key = t.key from rfl]
  cases colV t.cols d.co with
  | none => rfl
  | some x =>
    show (if d.op = 5 ∧ x.id = t.key then 15 else if d.op = 6 ∧ rightN (bs d.to) = false then 8 else if d.op = 6 ∧ (colP t.cols d.to).isSome = true then 14
      else if d.op = 7 ∧ rightT d.tk d.tm = false then 9 else if d.op = 7 ∧ wideT d.tk d.tm x.tk x.tm = false then 16 else if d.op = 8 ∧ presetD x.tk x.tm d.dk d.dn d.ds = false then 10 else 0) = colE t x d
    unfold colE cutE callE widE presE
    rcases hop with e | e | e | e
    · simp only [e]; simp
    · simp only [e]; simp
      cases rightN (bs d.to) <;> cases (colP t.cols d.to).isSome <;> rfl
    · simp only [e]; simp
      cases rightT d.tk d.tm <;> cases wideT d.tk d.tm x.tk x.tm <;> rfl
    · simp only [e]; simp
      cases presetD x.tk x.tm d.dk d.dn d.ds <;> rfl
/-- the columns behind a change of one -/
def colsC (l : List Cb) (j : Nat) (c : Cb) (d : Dp) : List Cb := if d.op = 5 then l.eraseIdx j else if d.op = 6 then l.set j { c with nm := d.to } else if d.op = 7 then l.set j (castC d.tk d.tm c) else l.set j { c with dk := d.dk, dn := d.dn, ds := d.ds }
theorem colsC_eq {t : Tb} {d : Dp} (hop : d.op = 5 ∨ d.op = 6 ∨ d.op = 7 ∨ d.op = 8) (hp : t.cols.Pairwise (Apart Cb.id Cb.nm)) {j : Nat} {c : Cb} (hj : t.cols[j]? = some c) (hs : c.nm = d.co) : tableD t.p d = ⟨t.id, t.nm, t.key, t.nx, colsC t.cols j c d⟩ := by
  have h3 : ¬ d.op = 3 := by omega
  have h4 : ¬ d.op = 4 := by omega
  have hc : colsD t.p d = colsC t.cols j c d := by
    unfold colsD colsC
    rw [if_neg h4, show t.p.cols = t.cols from rfl]
    rcases hop with e | e | e | e
    · rw [if_pos e, if_pos e]; exact filter_erase hp hj hs
    · rw [if_neg (by omega), if_pos e, if_neg (by omega), if_pos e]; exact map_set hp hj hs fun c => { c with nm := d.to }
    · rw [if_neg (by omega), if_neg (by omega), if_pos e, if_neg (by omega), if_neg (by omega), if_pos e]; exact map_set hp hj hs fun c => castC d.tk d.tm c
    · rw [if_neg (by omega), if_neg (by omega), if_neg (by omega), if_pos e, if_neg (by omega), if_neg (by omega), if_neg (by omega)]; exact map_set hp hj hs fun c => { c with dk := d.dk, dn := d.dn, ds := d.ds }
  unfold tableD
  rw [if_neg h3, if_neg h4, hc]; rfl
end Go.Proofs.YtebldfnocpcddaaGreatDoor

/-
  Contract of package ddl's change: one change of a catalog of the call's own.
-/
namespace Go.Proofs.YtebldfnocpcddaaGreatDoor
open Go.RowKit

theorem fits_col {W : World} {b : Nat} {u : Tb} (h : OwnC W b (.slice u.A u.cols.length u.cap) u.cols) : u.cols.length ≤ u.cap := by
  obtain ⟨A9, cap9, e, h9, _⟩ := h.form
  injection e with _ _ e3
  omega
theorem map_erase : ∀ (l : List Tb) (k : Nat), (l.eraseIdx k).map Tb.p = (l.map Tb.p).eraseIdx k
  | [], k => rfl
  | a :: r, 0 => rfl
  | a :: r, k + 1 => by simp [map_erase r k]
/-- what a change of one table leaves -/
theorem OwnCat.cat {w w' : World} {B Bc B2 g cap bx : Nat} {l : List Tb} {k : Nat} {t t' : Tb} {R : List Tp} (h : OwnCat w B Bc (.slice (some ⟨g, 0, none⟩) l.length cap) l) (hk : l[k]? = some t) (hcap : l.length ≤ cap)
    (hrow : OwnTb w' B (.slice (some ⟨g, 0, none⟩) l.length cap) (l.set k t')) (hcol : OwnC w' B2 (.slice t'.A t'.cols.length t'.cap) t'.cols)
    (hw : Off (fun x => x = g ∨ colBk t = some x) w w') (hbn : ¬ InCat (.slice (some ⟨g, 0, none⟩) l.length cap) l bx) (hbx : w.cell? ⟨bx, 0, none⟩ = some (.slice (some ⟨g, 0, none⟩) l.length cap)) (hR : (l.map Tb.p).set k t'.p = R) :
    ∃ A' cap' l', w'.cell? ⟨bx, 0, none⟩ = some (.slice A' l'.length cap') ∧ CatAt w' A' cap' l' ∧ l'.map Tb.p = R := by
  refine ⟨some ⟨g, 0, none⟩, cap, l.set k t', ?_, ⟨h.set hk hrow hcol hw, by rw [List.length_set]; exact hcap, fun s hs => ?_⟩, by rw [List.map_set]; exact hR⟩
  · rw [List.length_set]
    refine hw.keep hbx fun e => hbn ?_
    rcases e with e | e
    · exact .inl (congrArg some (Eq.symm e))
    · exact .inr ⟨t, List.mem_of_getElem? hk, e⟩
  · rcases List.mem_or_eq_of_mem_set hs with hs | rfl
    · exact fits_col (h.cols s hs)
    · exact fits_col hcol
theorem in_cat {g n cap k : Nat} {l : List Tb} {t : Tb} (hk : l[k]? = some t) {w w' : World} (h : Off (fun x => x = g ∨ colBk t = some x) w w') : Off (fun x => InCat (.slice (some ⟨g, 0, none⟩) n cap) l x) w w' := h.mono fun x _ e => by
  rcases e with e | e
  · left; show some g = some x; rw [e]
  · exact .inr ⟨t, List.mem_of_getElem? hk, e⟩
/-- the error of a change, of a right catalog and a plain change -/
noncomputable def chgE (L : List Tp) (d : Dp) (id : Int) : Int := if d.op = 1 then createE L d id else match (findT L d.tb).bind fun k => L[k]? with
    | none => 12
    | some t => wrongE L t d
end Go.Proofs.YtebldfnocpcddaaGreatDoor

/-
  Contract of package ddl's Plain.
-/
namespace Go.Proofs.YtebldfnocpcddaaGreatDoor
open Go.RowKit

theorem plainD_no (d : Dp) (h : ¬ (1 ≤ d.op ∧ d.op ≤ 8)) : plainD d = false := by
  cases hp : plainD d with
  | false => rfl
  | true => exact absurd (plainD_op hp) h
set_option maxRecDepth 100000 in
set_option maxHeartbeats 3000000 in
theorem dplain_any (d : Db) (w : World) (hD : DdlAt w w.heap.size d) (hl : d.p.cols.length ≤ 1000000) : Calls Tryz.prog 19 #[DV d] w fun e w' => e = .returned (.bool (plainD d.p)) ∧ Below w.heap.size w w' := by
  obtain ⟨w0, hw0, hb0, hX, hs0⟩ := box_ddl w d
  have Hw0 := Lib.hid hw0; clear hw0
  have Hb0 := Lib.hid hb0
  have HD0 := Lib.hid (hD.to hb0); clear hD hb0
  have HX := Lib.hid hX; clear hX
  have Hs0 := Lib.hid hs0; clear hs0
  have HP := Lib.hid (parts_any d w0)
  rw [← Hw0.out] at HP
  have HI := Lib.hid (fun w' hA' => withId_any d.A d.cap d.p.cols w' hA' hl)
  have q : ∀ (w : World) (v_op : Int) (v_tb : ByteArray) (v_co : ByteArray) (v_to : ByteArray) (v_key : ByteArray) (v_tk : Int) (v_tm : Int) (v_nl : Bool) (v_dk : Int) (v_dn : Int) (v_ds : ByteArray) (v_n : Int), (binOp .eql 72 (.agg #[.int .i64 v_op, .string v_tb, .string v_co, .string v_to, .string v_key, .int .i64 v_tk, .int .i64 v_tm, .bool v_nl, .int .i64 v_dk, .int .i64 v_dn, .string v_ds, .int .i64 v_n]) (.agg #[.int .i64 0, .string ⟨#[]⟩, .string ⟨#[]⟩, .string ⟨#[]⟩, .string ⟨#[]⟩, .int .i64 0, .int .i64 0, .bool false, .int .i64 0, .int .i64 0, .string ⟨#[]⟩, .int .i64 0])).run Tryz.prog w = .ok (.bool (eqP ⟨v_op, v_tb, v_co, v_to, v_key, v_tk, v_tm, v_nl, v_dk, v_dn, v_ds, v_n⟩ zeroP)) w := fun w v_op v_tb v_co v_to v_key v_tk v_tm v_nl v_dk v_dn v_ds v_n => run_eql_P w ⟨v_op, v_tb, v_co, v_to, v_key, v_tk, v_tm, v_nl, v_dk, v_dn, v_ds, v_n⟩ zeroP
  by_cases e1 : d.p.op = 1
  · have e := e1
    have Hv : Hid (plainD d.p = eqP (restP d.p (d.p.cols.length : Int)) zeroP) := (rest_plain d.p (by omega)).symm
    have Hr : Hid (restP d.p (d.p.cols.length : Int) = ⟨0, ⟨#[]⟩, d.p.co, d.p.to, ⟨#[]⟩, d.p.tk, d.p.tm, d.p.nl, d.p.dk, d.p.dn, d.p.ds, ((d.p.cols.countP fun c => c.id != 0 : Nat) : Int)⟩) := by show _ = _; unfold restP; rw [if_pos e]
    rw [Hr.out] at Hv
    generalize plainD d.p = R at Hv ⊢
    have q1 : (d.p.op == 1) = true := by rw [beq_iff_eq]; exact e
    clear e e1
    go_enter Tryz.func19, Tryz.ntmps19
    go_wp2_with fail
    refine HP.out.mono ?_
    rintro e w1 ⟨rfl, hb1⟩
    rw [Hw0.out] at hb1
    have Hb1 := Lib.hid hb1
    have HX1 := Lib.hid (HX.out.below hb1 (by have := Hs0.out; omega))
    have hne : w.heap.size ≠ w1.heap.size := by have := hb1.size; have := Hs0.out; omega
    have hne' : w1.heap.size ≠ w.heap.size := fun h => hne h.symm
    clear hb1
    obtain ⟨x0, x1, x2, x3, x4, x5, x6, x7, x8, x9, x10, x11⟩ := HX1.out.ddl
    have k0 := fun o => keep_alloc x0 o
    have k11 := fun o => keep_alloc x11 o
    unfold Db.parts
    have HI1 := Lib.hid (fun X (hX : Below w1.heap.size w1 X) => HI.out X (RowAt.to (HD0.out.to Hb1.out) hX))
    go_wp2_with fail
    refine (HI1.out _ (by go_grown)).mono ?_
    rintro e w2 ⟨rfl, hb2⟩
    have HBk : Hid (BlkN w2 w1.heap.size [.int .i64 0, .string ⟨#[]⟩, .string d.p.co, .string d.p.to, .string d.p.key, .int .i64 d.p.tk, .int .i64 d.p.tm, .bool d.p.nl, .int .i64 d.p.dk, .int .i64 d.p.dn, .string d.p.ds, .int .i64 (d.p.cols.length : Int)]) := (BlkN.new w1 _ [.int .i64 0, .string ⟨#[]⟩, .string d.p.co, .string d.p.to, .string d.p.key, .int .i64 d.p.tk, .int .i64 d.p.tm, .bool d.p.nl, .int .i64 d.p.dk, .int .i64 d.p.dn, .string d.p.ds, .int .i64 (d.p.cols.length : Int)] 72 rfl).below hb2 (by simp)
    have g4 : w2.frozen? ⟨w1.heap.size, 4, none⟩ = false := (hb2.frozen (p := ⟨w1.heap.size, 4, none⟩) (by simp)).trans (by simp)
    have g11 : w2.frozen? ⟨w1.heap.size, 11, none⟩ = false := (hb2.frozen (p := ⟨w1.heap.size, 11, none⟩) (by simp)).trans (by simp)
    have Hb2 : Hid (Below w1.heap.size w1 w2) := ((Below.refl w1.heap.size w1).alloc (Nat.le_refl _) _).trans (hb2.mono (by simp))
    clear hb2 x0 x1 x2 x3 x4 x5 x6 x7 x8 x9 x10 x11 k0 k11
    have y0 := HBk.out 0 _ rfl
    have y1 := HBk.out 1 _ rfl
    have y2 := HBk.out 2 _ rfl
    have y3 := HBk.out 3 _ rfl
    have y4 := HBk.out 4 _ rfl
    have y5 := HBk.out 5 _ rfl
    have y6 := HBk.out 6 _ rfl
    have y7 := HBk.out 7 _ rfl
    have y8 := HBk.out 8 _ rfl
    have y9 := HBk.out 9 _ rfl
    have y10 := HBk.out 10 _ rfl
    have y11 := HBk.out 11 _ rfl
    have HbE : Hid (Below w.heap.size w ((w2.setCell ⟨w1.heap.size, 4, none⟩ (.string ⟨#[]⟩)).setCell ⟨w1.heap.size, 11, none⟩ (.int .i64 ((d.p.cols.countP fun c => c.id != 0 : Nat) : Int)))) := by
      have h1 := bthen Hb0.out Hb1.out
      have h2 : w.heap.size ≤ w1.heap.size := h1.size
      exact bput (bput (h1.trans (Hb2.out.mono h2)) h2 4 _) h2 11 _
    generalize (d.p.cols.countP fun c => c.id != 0) = cnt at Hv HbE ⊢
    go_wp2_with fail
    go_ret
    exact ⟨by rw [Hv.out]; rfl, HbE.out⟩
  by_cases e2 : d.p.op = 2
  · have e := e2
    have Hv : Hid (plainD d.p = eqP (restP d.p (d.p.cols.length : Int)) zeroP) := (rest_plain d.p (by omega)).symm
    have Hr : Hid (restP d.p (d.p.cols.length : Int) = ⟨0, ⟨#[]⟩, d.p.co, d.p.to, d.p.key, d.p.tk, d.p.tm, d.p.nl, d.p.dk, d.p.dn, d.p.ds, (d.p.cols.length : Int)⟩) := by show _ = _; unfold restP; rw [if_neg (by omega), if_pos e]
    rw [Hr.out] at Hv
    generalize plainD d.p = R at Hv ⊢
    have q1 : (d.p.op == 1) = false := by rw [beq_eq_false_iff_ne]; omega
    have q2 : (d.p.op == 2) = true := by rw [beq_iff_eq]; exact e
    clear e e1 e2
    go_enter Tryz.func19, Tryz.ntmps19
    go_wp2_with fail
    refine HP.out.mono ?_
    rintro e w1 ⟨rfl, hb1⟩
    rw [Hw0.out] at hb1
    have Hb1 := Lib.hid hb1
    have HX1 := Lib.hid (HX.out.below hb1 (by have := Hs0.out; omega))
    have hne : w.heap.size ≠ w1.heap.size := by have := hb1.size; have := Hs0.out; omega
    have hne' : w1.heap.size ≠ w.heap.size := fun h => hne h.symm
    clear hb1
    obtain ⟨x0, x1, x2, x3, x4, x5, x6, x7, x8, x9, x10, x11⟩ := HX1.out.ddl
    have k0 := fun o => keep_alloc x0 o
    have k11 := fun o => keep_alloc x11 o
    unfold Db.parts
    go_wp2_with fail
    go_ret
    refine ⟨by rw [Hv.out]; rfl, bthen (bthen Hb0.out Hb1.out) ?_⟩
    go_grown
  by_cases e3 : d.p.op = 3
  · have e := e3
    have Hv : Hid (plainD d.p = eqP (restP d.p (d.p.cols.length : Int)) zeroP) := (rest_plain d.p (by omega)).symm
    have Hr : Hid (restP d.p (d.p.cols.length : Int) = ⟨0, ⟨#[]⟩, d.p.co, ⟨#[]⟩, d.p.key, d.p.tk, d.p.tm, d.p.nl, d.p.dk, d.p.dn, d.p.ds, (d.p.cols.length : Int)⟩) := by show _ = _; unfold restP; rw [if_neg (by omega), if_neg (by omega), if_pos e]
    rw [Hr.out] at Hv
    generalize plainD d.p = R at Hv ⊢
    have q1 : (d.p.op == 1) = false := by rw [beq_eq_false_iff_ne]; omega
    have q2 : (d.p.op == 2) = false := by rw [beq_eq_false_iff_ne]; omega
    have q6 : (d.p.op == 6) = false := by rw [beq_eq_false_iff_ne]; omega
    have q3 : (d.p.op == 3) = true := by rw [beq_iff_eq]; exact e
    clear e e1 e2 e3
    go_enter Tryz.func19, Tryz.ntmps19
    go_wp2_with fail
    refine HP.out.mono ?_
    rintro e w1 ⟨rfl, hb1⟩
    rw [Hw0.out] at hb1
    have Hb1 := Lib.hid hb1
    have HX1 := Lib.hid (HX.out.below hb1 (by have := Hs0.out; omega))
    have hne : w.heap.size ≠ w1.heap.size := by have := hb1.size; have := Hs0.out; omega
    have hne' : w1.heap.size ≠ w.heap.size := fun h => hne h.symm
    clear hb1
    obtain ⟨x0, x1, x2, x3, x4, x5, x6, x7, x8, x9, x10, x11⟩ := HX1.out.ddl
    have k0 := fun o => keep_alloc x0 o
    have k11 := fun o => keep_alloc x11 o
    unfold Db.parts
    go_wp2_with fail
    go_ret
    refine ⟨by rw [Hv.out]; rfl, bthen (bthen Hb0.out Hb1.out) ?_⟩
    go_grown
  by_cases e4 : d.p.op = 4
  · have e := e4
    have Hv : Hid (plainD d.p = eqP (restP d.p (d.p.cols.length : Int)) zeroP) := (rest_plain d.p (by omega)).symm
    have Hr : Hid (restP d.p (d.p.cols.length : Int) = ⟨0, ⟨#[]⟩, ⟨#[]⟩, d.p.to, d.p.key, 0, 0, false, 0, 0, ⟨#[]⟩, (d.p.cols.length : Int)⟩) := by show _ = _; unfold restP; rw [if_neg (by omega), if_neg (by omega), if_neg (by omega), if_pos e]
    rw [Hr.out] at Hv
    generalize plainD d.p = R at Hv ⊢
    have q1 : (d.p.op == 1) = false := by rw [beq_eq_false_iff_ne]; omega
    have q2 : (d.p.op == 2) = false := by rw [beq_eq_false_iff_ne]; omega
    have q6 : (d.p.op == 6) = false := by rw [beq_eq_false_iff_ne]; omega
    have q3 : (d.p.op == 3) = false := by rw [beq_eq_false_iff_ne]; omega
    have q4 : (d.p.op == 4) = true := by rw [beq_iff_eq]; exact e
    clear e e1 e2 e3 e4
    go_enter Tryz.func19, Tryz.ntmps19
    go_wp2_with fail
    refine HP.out.mono ?_
    rintro e w1 ⟨rfl, hb1⟩
    rw [Hw0.out] at hb1
    have Hb1 := Lib.hid hb1
    have HX1 := Lib.hid (HX.out.below hb1 (by have := Hs0.out; omega))
    have hne : w.heap.size ≠ w1.heap.size := by have := hb1.size; have := Hs0.out; omega
    have hne' : w1.heap.size ≠ w.heap.size := fun h => hne h.symm
    clear hb1
    obtain ⟨x0, x1, x2, x3, x4, x5, x6, x7, x8, x9, x10, x11⟩ := HX1.out.ddl
    have k0 := fun o => keep_alloc x0 o
    have k11 := fun o => keep_alloc x11 o
    unfold Db.parts
    go_wp2_with fail
    go_ret
    refine ⟨by rw [Hv.out]; rfl, bthen (bthen Hb0.out Hb1.out) ?_⟩
    go_grown
  by_cases e5 : d.p.op = 5
  · have e := e5
    have Hv : Hid (plainD d.p = eqP (restP d.p (d.p.cols.length : Int)) zeroP) := (rest_plain d.p (by omega)).symm
    have Hr : Hid (restP d.p (d.p.cols.length : Int) = ⟨0, ⟨#[]⟩, ⟨#[]⟩, d.p.to, d.p.key, d.p.tk, d.p.tm, d.p.nl, d.p.dk, d.p.dn, d.p.ds, (d.p.cols.length : Int)⟩) := by show _ = _; unfold restP; rw [if_neg (by omega), if_neg (by omega), if_neg (by omega), if_neg (by omega), if_pos e]
    rw [Hr.out] at Hv
    generalize plainD d.p = R at Hv ⊢
    have q1 : (d.p.op == 1) = false := by rw [beq_eq_false_iff_ne]; omega
    have q2 : (d.p.op == 2) = false := by rw [beq_eq_false_iff_ne]; omega
    have q6 : (d.p.op == 6) = false := by rw [beq_eq_false_iff_ne]; omega
    have q3 : (d.p.op == 3) = false := by rw [beq_eq_false_iff_ne]; omega
    have q4 : (d.p.op == 4) = false := by rw [beq_eq_false_iff_ne]; omega
    have q7 : (d.p.op == 7) = false := by rw [beq_eq_false_iff_ne]; omega
    have q5 : (d.p.op == 5) = true := by rw [beq_iff_eq]; exact e
    clear e e1 e2 e3 e4 e5
    go_enter Tryz.func19, Tryz.ntmps19
    go_wp2_with fail
    refine HP.out.mono ?_
    rintro e w1 ⟨rfl, hb1⟩
    rw [Hw0.out] at hb1
    have Hb1 := Lib.hid hb1
    have HX1 := Lib.hid (HX.out.below hb1 (by have := Hs0.out; omega))
    have hne : w.heap.size ≠ w1.heap.size := by have := hb1.size; have := Hs0.out; omega
    have hne' : w1.heap.size ≠ w.heap.size := fun h => hne h.symm
    clear hb1
    obtain ⟨x0, x1, x2, x3, x4, x5, x6, x7, x8, x9, x10, x11⟩ := HX1.out.ddl
    have k0 := fun o => keep_alloc x0 o
    have k11 := fun o => keep_alloc x11 o
    unfold Db.parts
    go_wp2_with fail
    go_ret
    refine ⟨by rw [Hv.out]; rfl, bthen (bthen Hb0.out Hb1.out) ?_⟩
    go_grown
  by_cases e6 : d.p.op = 6
  · have e := e6
    have Hv : Hid (plainD d.p = eqP (restP d.p (d.p.cols.length : Int)) zeroP) := (rest_plain d.p (by omega)).symm
    have Hr : Hid (restP d.p (d.p.cols.length : Int) = ⟨0, ⟨#[]⟩, ⟨#[]⟩, ⟨#[]⟩, d.p.key, d.p.tk, d.p.tm, d.p.nl, d.p.dk, d.p.dn, d.p.ds, (d.p.cols.length : Int)⟩) := by show _ = _; unfold restP; rw [if_neg (by omega), if_neg (by omega), if_neg (by omega), if_neg (by omega), if_neg (by omega), if_pos e]
    rw [Hr.out] at Hv
    generalize plainD d.p = R at Hv ⊢
    have q1 : (d.p.op == 1) = false := by rw [beq_eq_false_iff_ne]; omega
    have q2 : (d.p.op == 2) = false := by rw [beq_eq_false_iff_ne]; omega
    have q6 : (d.p.op == 6) = true := by rw [beq_iff_eq]; exact e
    clear e e1 e2 e3 e4 e5 e6
    go_enter Tryz.func19, Tryz.ntmps19
    go_wp2_with fail
    refine HP.out.mono ?_
    rintro e w1 ⟨rfl, hb1⟩
    rw [Hw0.out] at hb1
    have Hb1 := Lib.hid hb1
    have HX1 := Lib.hid (HX.out.below hb1 (by have := Hs0.out; omega))
    have hne : w.heap.size ≠ w1.heap.size := by have := hb1.size; have := Hs0.out; omega
    have hne' : w1.heap.size ≠ w.heap.size := fun h => hne h.symm
    clear hb1
    obtain ⟨x0, x1, x2, x3, x4, x5, x6, x7, x8, x9, x10, x11⟩ := HX1.out.ddl
    have k0 := fun o => keep_alloc x0 o
    have k11 := fun o => keep_alloc x11 o
    unfold Db.parts
    go_wp2_with fail
    go_ret
    refine ⟨by rw [Hv.out]; rfl, bthen (bthen Hb0.out Hb1.out) ?_⟩
    go_grown
  by_cases e7 : d.p.op = 7
  · have e := e7
    have Hv : Hid (plainD d.p = eqP (restP d.p (d.p.cols.length : Int)) zeroP) := (rest_plain d.p (by omega)).symm
    have Hr : Hid (restP d.p (d.p.cols.length : Int) = ⟨0, ⟨#[]⟩, ⟨#[]⟩, d.p.to, d.p.key, 0, 0, d.p.nl, d.p.dk, d.p.dn, d.p.ds, (d.p.cols.length : Int)⟩) := by show _ = _; unfold restP; rw [if_neg (by omega), if_neg (by omega), if_neg (by omega), if_neg (by omega), if_neg (by omega), if_neg (by omega), if_pos e]
    rw [Hr.out] at Hv
    generalize plainD d.p = R at Hv ⊢
    have q1 : (d.p.op == 1) = false := by rw [beq_eq_false_iff_ne]; omega
    have q2 : (d.p.op == 2) = false := by rw [beq_eq_false_iff_ne]; omega
    have q6 : (d.p.op == 6) = false := by rw [beq_eq_false_iff_ne]; omega
    have q3 : (d.p.op == 3) = false := by rw [beq_eq_false_iff_ne]; omega
    have q4 : (d.p.op == 4) = false := by rw [beq_eq_false_iff_ne]; omega
    have q7 : (d.p.op == 7) = true := by rw [beq_iff_eq]; exact e
    clear e e1 e2 e3 e4 e5 e6 e7
    go_enter Tryz.func19, Tryz.ntmps19
    go_wp2_with fail
    refine HP.out.mono ?_
    rintro e w1 ⟨rfl, hb1⟩
    rw [Hw0.out] at hb1
    have Hb1 := Lib.hid hb1
    have HX1 := Lib.hid (HX.out.below hb1 (by have := Hs0.out; omega))
    have hne : w.heap.size ≠ w1.heap.size := by have := hb1.size; have := Hs0.out; omega
    have hne' : w1.heap.size ≠ w.heap.size := fun h => hne h.symm
    clear hb1
    obtain ⟨x0, x1, x2, x3, x4, x5, x6, x7, x8, x9, x10, x11⟩ := HX1.out.ddl
    have k0 := fun o => keep_alloc x0 o
    have k11 := fun o => keep_alloc x11 o
    unfold Db.parts
    go_wp2_with fail
    go_ret
    refine ⟨by rw [Hv.out]; rfl, bthen (bthen Hb0.out Hb1.out) ?_⟩
    go_grown
  by_cases e8 : d.p.op = 8
  · have e := e8
    have Hv : Hid (plainD d.p = eqP (restP d.p (d.p.cols.length : Int)) zeroP) := (rest_plain d.p (by omega)).symm
    have Hr : Hid (restP d.p (d.p.cols.length : Int) = ⟨0, ⟨#[]⟩, ⟨#[]⟩, d.p.to, d.p.key, d.p.tk, d.p.tm, d.p.nl, 0, 0, ⟨#[]⟩, (d.p.cols.length : Int)⟩) := by show _ = _; unfold restP; rw [if_neg (by omega), if_neg (by omega), if_neg (by omega), if_neg (by omega), if_neg (by omega), if_neg (by omega), if_neg (by omega)]
    rw [Hr.out] at Hv
    generalize plainD d.p = R at Hv ⊢
    have q1 : (d.p.op == 1) = false := by rw [beq_eq_false_iff_ne]; omega
    have q2 : (d.p.op == 2) = false := by rw [beq_eq_false_iff_ne]; omega
    have q6 : (d.p.op == 6) = false := by rw [beq_eq_false_iff_ne]; omega
    have q3 : (d.p.op == 3) = false := by rw [beq_eq_false_iff_ne]; omega
    have q4 : (d.p.op == 4) = false := by rw [beq_eq_false_iff_ne]; omega
    have q7 : (d.p.op == 7) = false := by rw [beq_eq_false_iff_ne]; omega
    have q5 : (d.p.op == 5) = false := by rw [beq_eq_false_iff_ne]; omega
    have q8 : (d.p.op == 8) = true := by rw [beq_iff_eq]; exact e
    clear e e1 e2 e3 e4 e5 e6 e7 e8
    go_enter Tryz.func19, Tryz.ntmps19
    go_wp2_with fail
    refine HP.out.mono ?_
    rintro e w1 ⟨rfl, hb1⟩
    rw [Hw0.out] at hb1
    have Hb1 := Lib.hid hb1
    have HX1 := Lib.hid (HX.out.below hb1 (by have := Hs0.out; omega))
    have hne : w.heap.size ≠ w1.heap.size := by have := hb1.size; have := Hs0.out; omega
    have hne' : w1.heap.size ≠ w.heap.size := fun h => hne h.symm
    clear hb1
    obtain ⟨x0, x1, x2, x3, x4, x5, x6, x7, x8, x9, x10, x11⟩ := HX1.out.ddl
    have k0 := fun o => keep_alloc x0 o
    have k11 := fun o => keep_alloc x11 o
    unfold Db.parts
    go_wp2_with fail
    go_ret
    refine ⟨by rw [Hv.out]; rfl, bthen (bthen Hb0.out Hb1.out) ?_⟩
    go_grown
  have Hv : Hid (plainD d.p = false) := plainD_no d.p (by omega)
  generalize plainD d.p = R at Hv ⊢
  have q1 : (d.p.op == 1) = false := by rw [beq_eq_false_iff_ne]; omega
  have q2 : (d.p.op == 2) = false := by rw [beq_eq_false_iff_ne]; omega
  have q6 : (d.p.op == 6) = false := by rw [beq_eq_false_iff_ne]; omega
  have q3 : (d.p.op == 3) = false := by rw [beq_eq_false_iff_ne]; omega
  have q4 : (d.p.op == 4) = false := by rw [beq_eq_false_iff_ne]; omega
  have q7 : (d.p.op == 7) = false := by rw [beq_eq_false_iff_ne]; omega
  have q5 : (d.p.op == 5) = false := by rw [beq_eq_false_iff_ne]; omega
  have q8 : (d.p.op == 8) = false := by rw [beq_eq_false_iff_ne]; omega
  clear e1 e2 e3 e4 e5 e6 e7 e8
  go_enter Tryz.func19, Tryz.ntmps19
  go_wp2_with fail
  refine HP.out.mono ?_
  rintro e w1 ⟨rfl, hb1⟩
  rw [Hw0.out] at hb1
  have Hb1 := Lib.hid hb1
  have HX1 := Lib.hid (HX.out.below hb1 (by have := Hs0.out; omega))
  have hne : w.heap.size ≠ w1.heap.size := by have := hb1.size; have := Hs0.out; omega
  have hne' : w1.heap.size ≠ w.heap.size := fun h => hne h.symm
  clear hb1
  obtain ⟨x0, x1, x2, x3, x4, x5, x6, x7, x8, x9, x10, x11⟩ := HX1.out.ddl
  have k0 := fun o => keep_alloc x0 o
  have k11 := fun o => keep_alloc x11 o
  unfold Db.parts
  go_wp2_with fail
  go_ret
  refine ⟨by rw [Hv.out]; rfl, bthen (bthen Hb0.out Hb1.out) ?_⟩
  go_grown
end Go.Proofs.YtebldfnocpcddaaGreatDoor

/-
  Contract of package ddl's Apply.
-/
namespace Go.Proofs.YtebldfnocpcddaaGreatDoor
open Go.RowKit

/-- the sizes of a change -/
def WfD (d : Dp) : Prop := d.tb.size ≤ 1000000 ∧ d.co.size ≤ 1000000 ∧ d.to.size ≤ 1000000 ∧ d.key.size ≤ 1000000 ∧ d.cols.length ≤ 1000000 ∧ (-9223372036854775808 ≤ d.dn ∧ d.dn < 9223372036854775808) ∧ ∀ c ∈ d.cols, WfC c
/-- the catalog behind a change, or none -/
noncomputable def applyO (L : List Tp) (d : Dp) (id : Int) : List Tp := if applyE L d id = 0 then applyR L d id else []
theorem applyE_chg {L : List Tp} {d : Dp} {id : Int} (h1 : RightL L) (h2 : plainD d = true) (h3 : 0 ≤ id) : applyE L d id = chgE L d id := by
  unfold applyE chgE
  rw [if_pos ⟨tf_iff.2 h1, h2, h3⟩]; rfl
theorem applyE_arg {L : List Tp} {d : Dp} {id : Int} (h : ¬ (RightL L ∧ plainD d = true ∧ 0 ≤ id)) : applyE L d id = 2 := by
  unfold applyE
  rw [if_neg fun e => h ⟨tf_iff.1 e.1, e.2⟩]
/-- a block of one cell holds no row of structs -/
theorem RowAt.put {α : Type} {m : Nat} {f : α → List Value} {w : World} {B b0 : Nat} {x : Value} {T : TypeId} {A : Option Addr} {l : List α} (h : RowAt m f w B A l) (hb : w.heap[b0]? = some (.cells #[x] T (0, 0))) (h2 : ∀ y : α, ∃ v, (f y)[1]? = some v) (u : Value) :
    RowAt m f (w.setCell ⟨b0, 0, none⟩ u) B A l := fun hl => by
  obtain ⟨b, off, rfl, h3, h4⟩ := h hl
  refine ⟨b, off, rfl, h3, fun j y hj i v hv => ?_⟩
  have hne : b ≠ b0 := fun e => by
    subst e
    obtain ⟨v1, hv1⟩ := h2 y
    have h5 := h4 j y hj 1 v1 hv1
    rw [cell_of_row w b _ _ _ (0, 0) hb] at h5
    have := (Array.getElem?_eq_some_iff.1 h5).1
    simp at this
  exact (Off.set w b0 0 u).keep (h4 j y hj i v hv) hne
theorem CatAt.put {w : World} {b0 : Nat} {x : Value} {T : TypeId} {A : Option Addr} {cap : Nat} {l : List Tb} (h : CatAt w A cap l) (hb : w.heap[b0]? = some (.cells #[x] T (0, 0))) (u : Value) : CatAt (w.setCell ⟨b0, 0, none⟩ u) A cap l := by
  have hs := (Off.set w b0 0 u).size
  exact ⟨⟨(h.1.1.put hb (fun y => ⟨_, rfl⟩) u).more hs, fun t ht => RowAt.more (RowAt.put (h.1.2 t ht) hb (fun y => ⟨_, rfl⟩) u) hs⟩, h.2⟩
/-- the base of the columns can be told below the heap's size -/
theorem OwnCat.low {w : World} {B Bc : Nat} {v : Value} {l : List Tb} (h : OwnCat w B Bc v l) (hB : B ≤ w.heap.size) (hc : ∀ t ∈ l, 0 < t.cols.length) : ∃ Bc', OwnCat w B Bc' v l ∧ Bc' ≤ w.heap.size := by
  cases l with
  | nil => exact ⟨w.heap.size, ⟨h.row, fun k hk => (h.row.lt k hk).2, hB, fun t ht => by simp at ht, h.apart⟩, Nat.le_refl _⟩
  | cons t r =>
    obtain ⟨g, cap, _, h1, h2, _⟩ := OwnR.shape (h.cols t List.mem_cons_self) (hc t List.mem_cons_self)
    exact ⟨Bc, h, by omega⟩
end Go.Proofs.YtebldfnocpcddaaGreatDoor

/-
  Contracts of law09's Few, FewAll and column.
-/
namespace Go.Proofs.YtebldfnocpcddaaGreatDoor
open Go.RowKit

theorem fewD_iff {d : Dp} : fewD d = true ↔ d.tb.size + d.co.size + d.to.size + d.key.size + d.ds.size ≤ 600 ∧ fewT ⟨0, ByteArray.empty, 0, 0, none, 0, d.cols⟩ = true := by
  unfold fewD
  rw [Bool.and_eq_true, decide_eq_true_iff]
  constructor
  · rintro ⟨h1, h2⟩; exact ⟨by omega, h2⟩
  · rintro ⟨h1, h2⟩; exact ⟨by omega, h2⟩
/-- a change that is tried is of the sizes that the contracts ask for -/
theorem WfD_of {w : World} {d : Db} (h : fewD d.p = true) (hi : InD w d) : WfD d.p := by
  obtain ⟨h1, h2⟩ := fewD_iff.1 h
  unfold fewT at h2
  simp only [Bool.and_eq_true, decide_eq_true_eq, List.all_eq_true, shortB_iff] at h2
  obtain ⟨_, _, _, _, _, _, _, _, hdn, _, _, _, _, hc⟩ := hi
  refine ⟨by omega, by omega, by omega, by omega, by omega, wf64 hdn, fun c hcm => ?_⟩
  have := h2.2.2 c hcm
  have hr := wf64 (hc c hcm).2.2.2.2.2.1
  exact ⟨by omega, hr.1, hr.2⟩
theorem fewT_A (c : List Cb) (A : Option Addr) (cap : Nat) : fewT ⟨0, ByteArray.empty, 0, 0, A, cap, c⟩ = fewT ⟨0, ByteArray.empty, 0, 0, none, 0, c⟩ := rfl
set_option maxRecDepth 100000 in
set_option maxHeartbeats 1000000 in
theorem few9_any (d : Db) (w : World) (hD : DdlAt w w.heap.size d) (hl : d.p.cols.length ≤ maxLen) (hs : SmD d.p) :
    Calls Tryz.prog 8 #[DV d] w fun e w' => e = .returned (.bool (fewD d.p)) ∧ Below w.heap.size w w' := by
  obtain ⟨w0, hw0, hb0, hX, hs0⟩ := box_ddl w d
  have Hw0 := Lib.hid hw0; clear hw0
  have Hb0 := Lib.hid hb0
  have HD := Lib.hid (hD.to hb0); clear hD hb0
  have HX := Lib.hid hX; clear hX
  have HF := Lib.hid (few8_any ⟨0, ByteArray.empty, 0, 0, d.A, d.cap, d.p.cols⟩ w0 HD.out hl)
  rw [fewT_A, ← Hw0.out] at HF
  obtain ⟨s1, s2, s3, s4, s5⟩ := hs
  have r1 : (d.p.tb.size : Int) ≤ 140737488351232 := by unfold reachBytes at s1; omega
  have r2 : (d.p.co.size : Int) ≤ 140737488351232 := by unfold reachBytes at s2; omega
  have r3 : (d.p.to.size : Int) ≤ 140737488351232 := by unfold reachBytes at s3; omega
  have r4 : (d.p.key.size : Int) ≤ 140737488351232 := by unfold reachBytes at s4; omega
  have r5 : (d.p.ds.size : Int) ≤ 140737488351232 := by unfold reachBytes at s5; omega
  clear s1 s2 s3 s4 s5
  have Hv : Hid (fewD d.p = (decide ((d.p.tb.size : Int) + d.p.co.size + d.p.to.size + d.p.key.size + d.p.ds.size ≤ 600) && fewT ⟨0, ByteArray.empty, 0, 0, none, 0, d.p.cols⟩)) := rfl
  generalize fewT ⟨0, ByteArray.empty, 0, 0, none, 0, d.p.cols⟩ = f at HF Hv
  cases h1 : decide ((d.p.tb.size : Int) + d.p.co.size + d.p.to.size + d.p.key.size + d.p.ds.size ≤ 600)
  · rw [h1] at Hv
    have h1' := of_decide_eq_false h1
    go_enter Tryz.func8, Tryz.ntmps8
    go_wp2_with fail
    rw [Hw0.out]
    go_ret
    exact ⟨by rw [Hv.out]; rfl, Hb0.out⟩
  · rw [h1] at Hv
    have h1' := of_decide_eq_true h1
    go_enter Tryz.func8, Tryz.ntmps8
    go_wp2_with fail
    refine HF.out.mono ?_
    rintro e w1 ⟨rfl, hb1⟩
    rw [Hw0.out] at hb1
    have Hb1 := Lib.hid (bthen Hb0.out hb1); clear hb1
    go_wp2_with fail
    go_ret
    exact ⟨by rw [Hv.out]; rfl, Hb1.out⟩

theorem DdlsAt.get {w : World} {B : Nat} {A : Option Addr} {l : List Db} (h : DdlsAt w B A l) (k : Nat) (d : Db) (hk : l[k]? = some d) : ∃ b off, A = some ⟨b, off, none⟩ ∧ b < B ∧
    w.cell? ⟨b, off + k * 12, none⟩ = some (.int .i64 d.p.op) ∧ w.cell? ⟨b, off + k * 12 + 1, none⟩ = some (.string d.p.tb) ∧ w.cell? ⟨b, off + k * 12 + 2, none⟩ = some (.string d.p.co) ∧ w.cell? ⟨b, off + k * 12 + 3, none⟩ = some (.string d.p.to) ∧
    w.cell? ⟨b, off + k * 12 + 4, none⟩ = some (.string d.p.key) ∧ w.cell? ⟨b, off + k * 12 + 5, none⟩ = some (.int .i64 d.p.tk) ∧ w.cell? ⟨b, off + k * 12 + 6, none⟩ = some (.int .i64 d.p.tm) ∧ w.cell? ⟨b, off + k * 12 + 7, none⟩ = some (.bool d.p.nl) ∧
    w.cell? ⟨b, off + k * 12 + 8, none⟩ = some (.int .i64 d.p.dk) ∧ w.cell? ⟨b, off + k * 12 + 9, none⟩ = some (.int .i64 d.p.dn) ∧ w.cell? ⟨b, off + k * 12 + 10, none⟩ = some (.string d.p.ds) ∧ w.cell? ⟨b, off + k * 12 + 11, none⟩ = some (.slice d.A d.p.cols.length d.cap) := by
  obtain ⟨b, off, rfl, h1, h2⟩ := h.1 (by have := (List.getElem?_eq_some_iff.1 hk).1; omega)
  have := h2 k d hk
  exact ⟨b, off, rfl, h1, this 0 _ rfl, this 1 _ rfl, this 2 _ rfl, this 3 _ rfl, this 4 _ rfl, this 5 _ rfl, this 6 _ rfl, this 7 _ rfl, this 8 _ rfl, this 9 _ rfl, this 10 _ rfl, this 11 _ rfl⟩
/-- are changes tried? -/
def fewL (l : List Db) : Bool := decide ((l.length : Int) ≤ 20) && l.all fun d => fewD d.p
/-- the column of a number -/
def colN (t : Tb) (id : Int) : Option Nat := t.cols.findIdx? fun c => c.id == id
/-- its name, or none -/
def colNm (t : Tb) (id : Int) : ByteArray := match colN t id with
  | some k => match t.cols[k]? with
    | some c => c.nm
    | none => ⟨#[]⟩
  | none => ⟨#[]⟩
end Go.Proofs.YtebldfnocpcddaaGreatDoor
