/-
  Texts that the proof needs, one behind the other: SkRows, SchMath, SchRows, SkBitMath, SkPutC, SkOfC, SchFirstC, SchFindC, SchAllC, SchDistC, SchColC, SchTabC, SchTab2C, SchRefC, SchRowC, SchOwn, SchFillC, SchReplC, SchFill2C, SchSameC, SchSameVC, SchLivesC.
-/
import Derived.Deep.Slices
import Derived.Deep.Strs
import Derived.ChangeArms
import Derived.Shelf.Abstract
import Derived.Laws.OwnMore
import Derived.Lib.SliceRun
import Derived.Test.YtmcgcanpaffggaaDoorPart1

/-
  Rows of values (three cells an element): such as lie somewhere, such as a call makes by itself, and a parameter of type []api.Value.
-/
namespace Go.Proofs.YtmcgcanpaffggaaDoor
open Go.RowKit

/-- a value with its string as the program has it -/
abbrev Vb := Int × Int × ByteArray
def vl (v : Vb) : Vl := (v.1, v.2.1, bs v.2.2)
def vls (l : List Vb) : List Vl := l.map vl
theorem vl_inj {a b : Vb} (h : vl a = vl b) : a = b := by
  obtain ⟨k, n, s⟩ := a
  obtain ⟨k', n', s'⟩ := b
  simp [vl] at h
  obtain ⟨rfl, rfl, h⟩ := h
  rw [bs_eq h]
theorem vls_inj {a b : List Vb} (h : vls a = vls b) : a = b := by
  induction a generalizing b with
  | nil => cases b with
    | nil => rfl
    | cons y b => simp [vls] at h
  | cons x a ih => cases b with
    | nil => simp [vls] at h
    | cons y b =>
      simp only [vls, List.map_cons, List.cons.injEq] at h
      rw [vl_inj h.1, ih h.2]
theorem vls_length (l : List Vb) : (vls l).length = l.length := List.length_map _
theorem vls_at (l : List Vb) (k : Nat) (h : k < l.length) : (vls l)[k]? = some (vl l[k]) := by simp [vls, h]

set_option maxRecDepth 100000 in
theorem infoV : (Tryd.prog.info? 35).map (fun i => (i.zero, i.size, i.bytes)) = some (some (.agg #[.int .i64 0, .int .i64 0, .string ByteArray.empty]), 3, 32) := by kernel_rfl
/-- values as cells -/
def P3 : List Vb → List Value
  | [] => []
  | t :: r => Value.int .i64 t.1 :: Value.int .i64 t.2.1 :: Value.string t.2.2 :: P3 r
theorem P3_append (a b : List Vb) : P3 (a ++ b) = P3 a ++ P3 b := by
  induction a with
  | nil => rfl
  | cons x r ih => simp [P3, ih]
theorem P3_at (l : List Vb) (i : Nat) (t : Vb) (h : l[i]? = some t) : (P3 l)[i * 3]? = some (.int .i64 t.1) ∧ (P3 l)[i * 3 + 1]? = some (.int .i64 t.2.1) ∧ (P3 l)[i * 3 + 2]? = some (.string t.2.2) := by
  induction l generalizing i with
  | nil => simp at h
  | cons x r ih =>
    cases i with
    | zero => simp at h; subst h; exact ⟨rfl, rfl, rfl⟩
    | succ i =>
      have := ih i (by simpa using h)
      rw [show (i + 1) * 3 = i * 3 + 1 + 1 + 1 by omega, show i * 3 + 1 + 1 + 1 + 1 = i * 3 + 1 + 1 + 1 + 1 by omega]
      rw [show i * 3 + 1 + 1 + 1 + 2 = i * 3 + 2 + 1 + 1 + 1 by omega]
      simpa [P3] using this
theorem P3_one (l : List Vb) : ∀ u ∈ P3 l, u.oneCell' = true := by
  induction l with
  | nil => intro u hu; cases hu
  | cons x r ih =>
    intro u hu
    simp [P3] at hu
    rcases hu with rfl | rfl | rfl | hu
    · rfl
    · rfl
    · rfl
    · exact ih u hu
/-- the slice value v is a row of the call's own, from block base on, and holds the values l -/
def OwnV (w : World) (base : Nat) (v : Value) (l : List Vb) : Prop := w.ownsRow base 35 3 v l.length (P3 l)
theorem OwnV.nil (w : World) (base : Nat) : OwnV w base (.slice none 0 0) [] := World.ownsRow_nil _ _ _ _
theorem OwnV.below {w w' : World} {base : Nat} {v : Value} {l : List Vb} (h : OwnV w base v l) (hb : Below w.heap.size w w') : OwnV w' base v l := owns_below h hb
theorem OwnV.alloc {w : World} {base : Nat} {v : Value} {l : List Vb} (h : OwnV w base v l) (o : Obj) : OwnV (w.alloc o) base v l := World.ownsRow.alloc h o
/-- a slice of values that lies below block B -/
def ValsAt (w : World) (B : Nat) (A : Option Addr) (l : List Vb) : Prop :=
  0 < l.length → ∃ b off, A = some ⟨b, off, none⟩ ∧ b < B ∧ ∀ j t, l[j]? = some t →
    w.cell? ⟨b, off + j * 3, none⟩ = some (.int .i64 t.1) ∧ w.cell? ⟨b, off + j * 3 + 1, none⟩ = some (.int .i64 t.2.1) ∧ w.cell? ⟨b, off + j * 3 + 2, none⟩ = some (.string t.2.2)
theorem ValsAt.of_own {w : World} {base : Nat} {v : Value} {l : List Vb} (h : OwnV w base v l) : ∃ A c, v = .slice A l.length c ∧ ValsAt w w.heap.size A l := by
  rcases h.2 with ⟨rfl, hl⟩ | ⟨g, cap, cur, rfl, hb, hg, _⟩
  · exact ⟨none, 0, by rw [hl], fun hp => absurd hp (by omega)⟩
  · refine ⟨some ⟨g, 0, none⟩, cap, rfl, fun _ => ⟨g, 0, rfl, (Array.getElem?_eq_some_iff.1 hg).1, fun j t hj => ?_⟩⟩
    obtain ⟨q1, q2, q3⟩ := P3_at l j t hj
    have r1 := World.ownsRow.cells h (g := g) rfl _ _ q1
    have r2 := World.ownsRow.cells h (g := g) rfl _ _ q2
    have r3 := World.ownsRow.cells h (g := g) rfl _ _ q3
    rw [Addr.add_lit] at r1 r2 r3
    exact ⟨r1, by rw [Nat.add_assoc]; exact r2, by rw [Nat.add_assoc]; exact r3⟩
theorem ValsAt.below {w w' : World} {B : Nat} {A : Option Addr} {l : List Vb} (h : ValsAt w B A l) (hb : Below B w w') : ValsAt w' B A l := fun hl => by
  obtain ⟨b, off, rfl, h1, h2⟩ := h hl
  exact ⟨b, off, rfl, h1, fun j t hj => ⟨(hb.cell (p := ⟨b, off + j * 3, none⟩) h1).trans (h2 j t hj).1, (hb.cell (p := ⟨b, off + j * 3 + 1, none⟩) h1).trans (h2 j t hj).2.1, (hb.cell (p := ⟨b, off + j * 3 + 2, none⟩) h1).trans (h2 j t hj).2.2⟩⟩
theorem ValsAt.more {w : World} {B B' : Nat} {A : Option Addr} {l : List Vb} (h : ValsAt w B A l) (hB : B ≤ B') : ValsAt w B' A l := fun hl => by
  obtain ⟨b, off, rfl, h1, h2⟩ := h hl
  exact ⟨b, off, rfl, by omega, h2⟩
theorem ValsAt.to {w w' : World} {A : Option Addr} {l : List Vb} (h : ValsAt w w.heap.size A l) (hb : Below w.heap.size w w') : ValsAt w' w'.heap.size A l := (h.below hb).more hb.size
/-- a row of one value, as a call makes it -/
theorem ValsAt.one (w : World) (k n : Int) (s : ByteArray) : ValsAt (w.alloc (.cells #[.int .i64 k, .int .i64 n, .string s] 35)) (w.alloc (.cells #[.int .i64 k, .int .i64 n, .string s] 35)).heap.size (some ⟨w.heap.size, 0, none⟩) [(k, n, s)] := fun _ => by
  refine ⟨w.heap.size, 0, rfl, by simp, fun j t hj => ?_⟩
  match j, hj with
  | 0, hj => simp at hj; subst hj; simp
/-- the cells of one element -/
theorem ValsAt.get {w : World} {B : Nat} {A : Option Addr} {l : List Vb} (h : ValsAt w B A l) (k : Nat) (hk : k < l.length) : ∃ b off, A = some ⟨b, off, none⟩ ∧ b < B ∧
    w.cell? ⟨b, off + k * 3, none⟩ = some (.int .i64 l[k].1) ∧ w.cell? ⟨b, off + k * 3 + 1, none⟩ = some (.int .i64 l[k].2.1) ∧ w.cell? ⟨b, off + k * 3 + 2, none⟩ = some (.string l[k].2.2) := by
  obtain ⟨b, off, rfl, h1, h2⟩ := h (by omega)
  exact ⟨b, off, rfl, h1, h2 k l[k] (by simp [hk])⟩

/-- one value appended to a row of the call's own -/
theorem wpList_append_val {w : World} {ops : Array Oper} {rest : List Oper} {o : Oper} {a : Act} {Q : Exit → Act → World → Prop} (hgd : o.guard = none) (s x : Operand)
    (ho : o.op = .call { callee := .builtin .append, args := #[s, x], argTypes := #[52, 52] })
    (base : Nat) (v : Value) (l : List Vb) (k n : Int) (t : ByteArray) (g : Nat)
    (hown : OwnV w base v l) (hs : a.eval s = v) (hx : a.eval x = .slice (some ⟨g, 0, none⟩) 1 1) (hg : g = w.heap.size) (hlen : l.length < 1000000) (hbase : base ≤ w.heap.size)
    (h : ∀ v' w', OwnV w' base v' (l ++ [(k, n, t)]) → Below base w w' → wpList Tryd.prog ops Q rest (a.put o.dst v') w') :
    wpList Tryd.prog ops Q (o :: rest) a (w.alloc (.cells #[.int .i64 k, .int .i64 n, .string t] 35)) := by
  subst hg
  obtain ⟨i0, hi, hz0, hz1, hz2⟩ := info_parts infoV
  refine wpList_append_own _ hgd s x 52 ho base 35 i0 (.agg #[.int .i64 0, .int .i64 0, .string ByteArray.empty]) 3 32 Tryd.underlying52 hi hz0 hz1 hz2 rfl (by decide) v l.length (P3 l) hs (World.ownsRow.alloc hown _)
    ⟨w.heap.size, 0, none⟩ 1 1 (P3 [(k, n, t)]) hx rfl (fun j u hj => ?_) (P3_one _) (by unfold maxLen; omega) (by omega) (by simp; omega) ?_
  · match j, hj with
    | 0, hj => simp [P3] at hj; subst hj; simp [Addr.add]
    | 1, hj => simp [P3] at hj; subst hj; simp [Addr.add]
    | 2, hj => simp [P3] at hj; subst hj; simp [Addr.add]
    | j + 3, hj => simp [P3] at hj
  · intro v' w' h1 h2 _
    refine h v' w' ?_ (((Below.refl base w).alloc hbase _).grown h2 (by simp; omega) (fun k hk => ?_))
    · unfold OwnV
      rw [P3_append, List.length_append]
      exact h1
    · exact ((World.ownsRow.lt hown) k hk).1

/-- values come in -/
def ValsIn (w : World) (a : Option Addr) (len : Nat) (l : List Vb) : Prop :=
  l.length = len ∧ len ≤ maxLen ∧ ValsAt w w.heap.size a l ∧ ∀ v ∈ l, (Lit.int .i64 v.1).wf = true ∧ (Lit.int .i64 v.2.1).wf = true ∧ v.2.2.size ≤ maxLen
set_option maxRecDepth 100000 in
theorem valsIn_of {H : Type} {enc : TypeId × Value → H} {W : World} {a : Option Addr} {len cap : Nat} {d : DataW H} {p : List MemPlace} {sp : Nat → Bool}
    (h : DataW.Trod enc Tryd.prog W 0 sp true 52 (.slice a len cap) d p) : ∃ l, ValsIn W a len l := by
  obtain ⟨fuel, hf⟩ := h
  rcases Go.Deep.open_slice Tryd.underlying52 hf with ⟨hcs, _⟩ | ⟨x, ln, cp, m, n, D, Pl, hcs, hb, hl, hm, hmm, _, hx⟩
  · simp [Value.cells] at hcs
    obtain ⟨rfl, rfl, rfl⟩ := hcs
    exact ⟨[], rfl, Nat.zero_le _, fun hp => absurd hp (by simp), by simp⟩
  · simp [Value.cells] at hcs
    obtain ⟨rfl, rfl, rfl⟩ := hcs
    rw [cellsV] at hx
    have hlm : len ≤ m := by rw [hmm]; split <;> omega
    have one : ∀ i, i < len → ∃ v : Vb, (W.cell? (x.add (i * 3)) = some (.int .i64 v.1) ∧ W.cell? ((x.add (i * 3)).add 1) = some (.int .i64 v.2.1) ∧ W.cell? ((x.add (i * 3)).add 2) = some (.string v.2.2)) ∧
        (Lit.int .i64 v.1).wf = true ∧ (Lit.int .i64 v.2.1).wf = true ∧ v.2.2.size ≤ maxLen := fun i hi => by
      obtain ⟨cs, h1, h2⟩ := hx i (by omega)
      obtain ⟨_, hlen, hc⟩ := World.cells?_some h1
      obtain ⟨y0, y1, y2, n', _, _, t0, t1, t2⟩ := Go.Deep.trod_struct3 Tryd.underlying35 h2
      match cs, hlen with
      | [c0, c1, c2], _ =>
        have e0 := hc 0 (by omega)
        have e1 := hc 1 (by omega)
        have e2 := hc 2 (by omega)
        have z0 : (x.add (i * 3)).add 0 = x.add (i * 3) := by simp [Addr.add]
        rw [z0] at e0
        simp at e0 e1 e2
        have q1 : Tryd.prog.cellsOf 3 = 1 := by kernel_rfl
        have q2 : Tryd.prog.cellsOf 2 = 1 := by kernel_rfl
        have q3 : Tryd.prog.cellsOf 9 = 1 := by kernel_rfl
        simp [q1, q2, q3] at t0 t1 t2
        obtain ⟨k, r0, _, w0⟩ := DataW.trod_int Tryd.underlying3 t0
        obtain ⟨n, r1, _, w1⟩ := DataW.trod_int Tryd.underlying2 t1
        obtain ⟨s, r2, _, w2⟩ := DataW.trod_string Tryd.underlying9 t2
        simp at r0 r1 r2
        subst r0 r1 r2
        exact ⟨(k, n, s), ⟨e0, e1, e2⟩, w0, w1, w2⟩
    have : Inhabited Vb := ⟨(0, 0, ByteArray.empty)⟩
    obtain ⟨f, hf⟩ := Go.Deep.choose_lt one
    refine ⟨(List.range len).map f, by simp, by omega, fun hp => ?_, fun v hv => ?_⟩
    · simp at hp
      obtain ⟨⟨e0, _⟩, _⟩ := hf 0 hp
      obtain ⟨b, off, spt⟩ := x
      obtain rfl : spt = none := by simpa [Addr.add] using World.cell?_spot e0
      have hlt := World.block_lt_of_cell? W _ e0
      rw [Addr.add_lit] at hlt
      refine ⟨b, off, rfl, hlt, fun j t hj => ?_⟩
      have hjl : j < len := by
        have := (List.getElem?_eq_some_iff.1 hj).1
        simpa using this
      obtain ⟨⟨g0, g1, g2⟩, _⟩ := hf j hjl
      have ht : f j = t := by simpa [hjl] using hj
      subst ht
      simp only [Addr.add_lit] at g0 g1 g2
      exact ⟨g0, g1, g2⟩
    · simp at hv
      obtain ⟨i, hi, rfl⟩ := hv
      exact (hf i hi).2
theorem in64_of {l : List Vb} (h : ∀ v ∈ l, (Lit.int .i64 v.1).wf = true ∧ (Lit.int .i64 v.2.1).wf = true ∧ v.2.2.size ≤ maxLen) : ∀ v ∈ vls l, in64 v := fun v hv => by
  simp only [vls, List.mem_map] at hv
  obtain ⟨x, hx, rfl⟩ := hv
  exact wf64 (h x hx).2.1
end Go.Proofs.YtmcgcanpaffggaaDoor

/-
  Columns, tables, fields and rows of package schema in plain words: which are right, what is found, what a row's error is.
-/
namespace Go.Proofs.YtmcgcanpaffggaaDoor
open Go.RowKit

/-- are two strings the same? -/
abbrev eqS (a b : ByteArray) : Bool := a.toList == b.toList
theorem eqS_iff {a b : ByteArray} : eqS a b = true ↔ a = b := by
  constructor
  · intro h
    have h' : a.toList = b.toList := by simpa [eqS] using h
    rw [ByteArray.toList_eq, ByteArray.toList_eq] at h'
    exact bs_eq h'
  · rintro rfl; simp [eqS]
theorem eqS_self (a : ByteArray) : eqS a a = true := eqS_iff.2 rfl
theorem eqS_comm (a b : ByteArray) : eqS a b = eqS b a := by
  apply bool_eq
  rw [eqS_iff, eqS_iff]
  exact ⟨Eq.symm, Eq.symm⟩
/-- a column, a table, a field -/
structure Cb where
  id : Int
  nm : ByteArray
  tk : Int
  tm : Int
  nl : Bool
  dk : Int
  dn : Int
  ds : ByteArray
structure Tb where
  id : Int
  nm : ByteArray
  key : Int
  nx : Int
  A : Option Addr
  cap : Nat
  cols : List Cb
structure Fb where
  nm : ByteArray
  k : Int
  n : Int
  s : ByteArray
abbrev Cb.dv (c : Cb) : Vb := (c.dk, c.dn, c.ds)
abbrev Fb.v (f : Fb) : Vb := (f.k, f.n, f.s)
abbrev CV (c : Cb) : Value := .agg #[.int .i64 c.id, .string c.nm, .int .i64 c.tk, .int .i64 c.tm, .bool c.nl, .int .i64 c.dk, .int .i64 c.dn, .string c.ds]
abbrev TV (t : Tb) : Value := .agg #[.int .i64 t.id, .string t.nm, .int .i64 t.key, .int .i64 t.nx, .slice t.A t.cols.length t.cap]
abbrev FV (f : Fb) : Value := .agg #[.string f.nm, .int .i64 f.k, .int .i64 f.n, .string f.s]
/-- is a value null? -/
def nulV (k n : Int) (s : ByteArray) : Bool := (k == 0) && ((n == 0) && eqS s ByteArray.empty)
def rightC (c : Cb) : Bool := decide (0 ≤ c.id) && (decide (c.id < 200) && (rightN (bs c.nm) && (rightT c.tk c.tm && (nulV c.dk c.dn c.ds || fitT c.tk c.tm c.dk c.dn c.ds))))
/-- what the sizes of a column, a table are -/
def WfC (c : Cb) : Prop := c.nm.size ≤ 1000000 ∧ -9223372036854775808 ≤ c.dn ∧ c.dn < 9223372036854775808
def WfT (t : Tb) : Prop := t.nm.size ≤ 1000000 ∧ t.cols.length ≤ 1000000 ∧ t.cols.length ≤ t.cap ∧ ∀ c ∈ t.cols, WfC c

/-! ### The first one -/
theorem find_at {α : Type} {p : α → Bool} {l : List α} {k : Nat} {y : α} (h : ∀ j x, l[j]? = some x → j < k → p x = false) (hy : l[k]? = some y) (hp : p y = true) : l.findIdx? p = some k := by
  induction l generalizing k with
  | nil => simp at hy
  | cons a r ih =>
    rw [List.findIdx?_cons]
    cases k with
    | zero => simp at hy; subst hy; simp [hp]
    | succ k =>
      have h0 := h 0 a rfl (by omega)
      rw [h0]
      have := ih (k := k) (fun j x hj hk => h (j + 1) x (by simpa using hj) (by omega)) (by simpa using hy)
      simp [this]
theorem find_no {α : Type} {p : α → Bool} {l : List α} (h : ∀ (j : Nat) x, l[j]? = some x → p x = false) : l.findIdx? p = none := by
  rw [List.findIdx?_eq_none_iff]
  intro x hx
  obtain ⟨j, hj⟩ := List.mem_iff_getElem?.1 hx
  exact h j x hj
theorem find_some {α : Type} {p : α → Bool} {l : List α} {k : Nat} (h : l.findIdx? p = some k) : ∃ y, l[k]? = some y ∧ p y = true ∧ ∀ j x, l[j]? = some x → j < k → p x = false := by
  rw [List.findIdx?_eq_some_iff_getElem] at h
  obtain ⟨h1, h2, h3⟩ := h
  refine ⟨l[k], by simp [h1], h2, fun j x hj hk => ?_⟩
  have := h3 j hk
  obtain ⟨hj1, rfl⟩ := List.getElem?_eq_some_iff.1 hj
  simpa using this
theorem find_lt {α : Type} {p : α → Bool} {l : List α} {k : Nat} (h : l.findIdx? p = some k) : k < l.length := by
  obtain ⟨y, h1, _⟩ := find_some h
  exact (List.getElem?_eq_some_iff.1 h1).1
/-- the pair that 'first' returns, the number that the document's own returns -/
def fstV (o : Option Nat) : Value := .tuple #[.int .i64 ((o.getD 0 : Nat) : Int), .bool o.isSome]
def idxI (o : Option Nat) : Int := match o with
  | some k => k
  | none => -1

/-! ### What holds at each place -/
theorem all_at {α : Type} {p : α → Bool} {l : List α} (h : ∀ (j : Nat) x, l[j]? = some x → p x = true) : l.all p = true := by
  rw [List.all_eq_true]
  intro x hx
  obtain ⟨j, hj⟩ := List.mem_iff_getElem?.1 hx
  exact h j x hj
theorem all_find {α : Type} (p : α → Bool) (l : List α) : (l.findIdx? fun x => !p x).isSome = !l.all p := by
  cases h : l.findIdx? fun x => !p x with
  | none =>
    rw [List.findIdx?_eq_none_iff] at h
    have : l.all p = true := List.all_eq_true.2 fun x hx => by simpa using h x hx
    simp [this]
  | some k =>
    obtain ⟨y, h1, h2, _⟩ := find_some h
    cases h3 : l.all p with
    | false => rfl
    | true =>
      rw [List.all_eq_true] at h3
      have := h3 y (List.mem_of_getElem? h1)
      rw [this] at h2; cases h2
/-- number and name of the element at a place are what they should be, against those before it -/
def OkAt {α : Type} (idf : α → Int) (nmf : α → ByteArray) (l : List α) (i : Nat) : Prop :=
  ∀ x, l[i]? = some x → (∀ y, 0 < i → l[i - 1]? = some y → idf y < idf x) ∧ ∀ j y, j < i → l[j]? = some y → nmf y ≠ nmf x
def Dist {α : Type} (idf : α → Int) (nmf : α → ByteArray) (l : List α) : Prop := ∀ i, i < l.length → OkAt idf nmf l i
noncomputable def tf (p : Prop) : Bool := @decide p (Classical.propDecidable p)
theorem tf_iff {p : Prop} : tf p = true ↔ p := by unfold tf; exact @decide_eq_true_iff p (Classical.propDecidable p)
theorem tf_yes {p : Prop} (h : p) : tf p = true := tf_iff.2 h
theorem tf_no {p : Prop} (h : ¬ p) : tf p = false := by
  cases e : tf p with
  | false => rfl
  | true => exact absurd (tf_iff.1 e) h
/-- numbers that increase are different -/
theorem dist_lt {α : Type} {idf : α → Int} {nmf : α → ByteArray} {l : List α} (h : Dist idf nmf l) : ∀ (d i : Nat) (x y : α), l[i]? = some x → l[i + d + 1]? = some y → idf x < idf y
  | 0, i, x, y, hx, hy => (h (i + 1) (List.getElem?_eq_some_iff.1 hy).1 y hy).1 x (by omega) (by simpa using hx)
  | d + 1, i, x, y, hx, hy => by
    have hl := (List.getElem?_eq_some_iff.1 hy).1
    obtain ⟨z, hz⟩ : ∃ z, l[i + d + 1]? = some z := ⟨l[i + d + 1]'(by omega), by simp [show i + d + 1 < l.length by omega]⟩
    have h1 := dist_lt h d i x z hx hz
    have h2 := (h (i + d + 2) (by omega) y (by rw [← hy]; congr 1)).1 z (by omega) (by rw [← hz]; congr 1)
    omega

/-! ### Tables -/
def keyOk (t : Tb) : Prop := ∃ i c, t.cols.findIdx? (fun c => c.id == t.key) = some i ∧ t.cols[i]? = some c ∧ c.nl = false
noncomputable def rightCols (t : Tb) : Bool := (t.cols.all fun c => rightC c && decide (c.id < t.nx)) && tf (Dist Cb.id Cb.nm t.cols)
noncomputable def rightTab (t : Tb) : Bool := decide (0 ≤ t.id) && (rightN (bs t.nm) && (decide (t.nx ≤ 200) && (decide (1 ≤ (t.cols.length : Int)) && (decide ((t.cols.length : Int) ≤ 10) && (rightCols t && tf (keyOk t))))))
/-- the names: the first one of a name is at its own place -/
theorem find_own {l : List Cb} {i : Nat} {c : Cb} (hc : l[i]? = some c) : (l.findIdx? fun x => eqS x.nm c.nm) = some i ↔ ∀ j y, j < i → l[j]? = some y → y.nm ≠ c.nm := by
  constructor
  · intro h j y hj hy e
    obtain ⟨_, _, _, h3⟩ := find_some h
    have := h3 j y hy hj
    rw [eqS_iff.2 e] at this; cases this
  · intro h
    refine find_at (fun j x hj hk => ?_) hc (eqS_self _)
    cases e : eqS x.nm c.nm with
    | false => rfl
    | true => exact absurd (eqS_iff.1 e) (h j x hk hj)
theorem find_ownT {l : List Tb} {i : Nat} {c : Tb} (hc : l[i]? = some c) : (l.findIdx? fun x => eqS x.nm c.nm) = some i ↔ ∀ j y, j < i → l[j]? = some y → y.nm ≠ c.nm := by
  constructor
  · intro h j y hj hy e
    obtain ⟨_, _, _, h3⟩ := find_some h
    have := h3 j y hy hj
    rw [eqS_iff.2 e] at this; cases this
  · intro h
    refine find_at (fun j x hj hk => ?_) hc (eqS_self _)
    cases e : eqS x.nm c.nm with
    | false => rfl
    | true => exact absurd (eqS_iff.1 e) (h j x hk hj)
/-- where all columns are in order the key is that of any column that could be it -/
theorem key_any {t : Tb} (hd : Dist Cb.id Cb.nm t.cols) : tf (keyOk t) = t.cols.any fun c => (c.id == t.key) && !c.nl := by
  apply bool_eq
  rw [tf_iff, List.any_eq_true]
  constructor
  · rintro ⟨i, c, h1, h2, h3⟩
    obtain ⟨y, g1, g2, _⟩ := find_some h1
    rw [h2] at g1; cases g1
    exact ⟨c, List.mem_of_getElem? h2, by simp [g2, h3]⟩
  · rintro ⟨c, hc, h⟩
    obtain ⟨i, hi⟩ := List.mem_iff_getElem?.1 hc
    simp only [Bool.and_eq_true, beq_iff_eq, Bool.not_eq_true'] at h
    refine ⟨i, c, find_at (fun j x hj hk => ?_) hi (by simp [h.1]), hi, h.2⟩
    have := dist_lt hd (i - j - 1) j x c hj (by rw [show j + (i - j - 1) + 1 = i by omega]; exact hi)
    simp; omega
/-- a catalog -/
noncomputable def rightCat (l : List Tb) : Bool := decide ((l.length : Int) ≤ 6) && (l.all rightTab && tf (Dist Tb.id Tb.nm l))

/-! ### Rows -/
def celE (c : Cb) (v : Vb) : Int := if nulV v.1 v.2.1 v.2.2 = true then (if c.nl = true then 0 else 11) else if fitT c.tk c.tm v.1 v.2.1 v.2.2 = true then 0 else 10
def rowE : List Cb → List Vb → Int
  | c :: cs, v :: vs => if celE c v = 0 then rowE cs vs else celE c v
  | _, _ => 0
theorem rowE_stop : ∀ {cs : List Cb} {vs : List Vb} {k : Nat} {c : Cb} {v : Vb}, (∀ j c v, j < k → cs[j]? = some c → vs[j]? = some v → celE c v = 0) → cs[k]? = some c → vs[k]? = some v → celE c v ≠ 0 → rowE cs vs = celE c v
  | [], _, _, _, _, _, hc, _, _ => by simp at hc
  | _ :: _, [], _, _, _, _, _, hv, _ => by simp at hv
  | a :: cs, b :: vs, 0, c, v, _, hc, hv, hn => by
    simp at hc hv; subst hc hv
    rw [rowE, if_neg hn]
  | a :: cs, b :: vs, k + 1, c, v, h, hc, hv, hn => by
    rw [rowE, if_pos (h 0 a b (by omega) rfl rfl)]
    exact rowE_stop (k := k) (fun j c v hj h1 h2 => h (j + 1) c v (by omega) (by simpa using h1) (by simpa using h2)) (by simpa using hc) (by simpa using hv) hn
theorem rowE_done : ∀ {cs : List Cb} {vs : List Vb}, (∀ (j : Nat) c v, cs[j]? = some c → vs[j]? = some v → celE c v = 0) → rowE cs vs = 0
  | [], _, _ => by rw [rowE]; intros; contradiction
  | _ :: _, [], _ => by rw [rowE]; intros; contradiction
  | a :: cs, b :: vs, h => by
    rw [rowE, if_pos (h 0 a b rfl rfl)]
    exact rowE_done (fun j c v h1 h2 => h (j + 1) c v (by simpa using h1) (by simpa using h2))
noncomputable def rowT (t : Tb) (vs : List Vb) : Int := if rightTab t = true then (if vs.length = t.cols.length then rowE t.cols vs else 5) else 2

/-! ### Fields -/
/-- the place of the column of a name -/
def colI (t : Tb) (s : ByteArray) : Option Nat := t.cols.findIdx? fun c => eqS c.nm s
/-- why the field at a place can't stand; 0 -/
noncomputable def fldE (t : Tb) (l : List Fb) (fixed : Int) (i : Nat) (f : Fb) : Int :=
  if (colI t f.nm).isSome = true then (if ((l.take i).findIdx? fun g => eqS g.nm f.nm).isSome = true then 14 else if idxI (colI t f.nm) = fixed then 15 else 0) else 13
/-- the row with the first fields' values -/
def updR (t : Tb) (vs : List Vb) (l : List Fb) : List Vb := l.foldl (fun r f => r.set ((colI t f.nm).getD 0) f.v) vs
theorem updR_length (t : Tb) (vs : List Vb) (l : List Fb) : (updR t vs l).length = vs.length := by
  unfold updR
  induction l generalizing vs with
  | nil => rfl
  | cons f l ih => rw [List.foldl_cons, ih, List.length_set]
theorem updR_snoc (t : Tb) (vs : List Vb) (l : List Fb) (f : Fb) : updR t vs (l ++ [f]) = (updR t vs l).set ((colI t f.nm).getD 0) f.v := by
  unfold updR; rw [List.foldl_append]; rfl
/-- the first field that can't stand -/
noncomputable def fldsE (t : Tb) (l : List Fb) (fixed : Int) : Int := go 0 l
where go (i : Nat) : List Fb → Int
  | [] => 0
  | f :: r => if fldE t l fixed i f = 0 then go (i + 1) r else fldE t l fixed i f
theorem fldsE_go (t : Tb) (l : List Fb) (fixed : Int) : ∀ (r : List Fb) (i k : Nat) (f : Fb), (∀ j g, r[j]? = some g → j < k → fldE t l fixed (i + j) g = 0) → r[k]? = some f → fldE t l fixed (i + k) f ≠ 0 → fldsE.go t l fixed i r = fldE t l fixed (i + k) f
  | [], _, _, _, _, h, _ => by simp at h
  | a :: r, i, 0, f, _, h, hn => by
    simp at h; subst h
    have hn' : fldE t l fixed i a ≠ 0 := hn
    rw [fldsE.go, if_neg hn']; rfl
  | a :: r, i, k + 1, f, h0, h, hn => by
    have h1 : fldE t l fixed i a = 0 := h0 0 a rfl (by omega)
    rw [fldsE.go, if_pos h1]
    have := fldsE_go t l fixed r (i + 1) k f (fun j g hj hk => by rw [show i + 1 + j = i + (j + 1) by omega]; exact h0 (j + 1) g (by simpa using hj) (by omega)) (by simpa using h) (by rw [show i + 1 + k = i + (k + 1) by omega]; exact hn)
    rw [this, show i + 1 + k = i + (k + 1) by omega]
theorem fldsE_go0 (t : Tb) (l : List Fb) (fixed : Int) : ∀ (r : List Fb) (i : Nat), (∀ j g, r[j]? = some g → fldE t l fixed (i + j) g = 0) → fldsE.go t l fixed i r = 0
  | [], _, _ => rfl
  | a :: r, i, h0 => by
    have h1 : fldE t l fixed i a = 0 := h0 0 a rfl
    rw [fldsE.go, if_pos h1]
    exact fldsE_go0 t l fixed r (i + 1) fun j g hj => by rw [show i + 1 + j = i + (j + 1) by omega]; exact h0 (j + 1) g (by simpa using hj)
theorem fldsE_stop {t : Tb} {l : List Fb} {fixed : Int} {k : Nat} {f : Fb} (h : ∀ j g, l[j]? = some g → j < k → fldE t l fixed j g = 0) (hf : l[k]? = some f) (hn : fldE t l fixed k f ≠ 0) : fldsE t l fixed = fldE t l fixed k f := by
  have := fldsE_go t l fixed l 0 k f (fun j g hj hk => by rw [Nat.zero_add]; exact h j g hj hk) hf (by rw [Nat.zero_add]; exact hn)
  rwa [Nat.zero_add] at this
theorem fldsE_done {t : Tb} {l : List Fb} {fixed : Int} (h : ∀ (j : Nat) g, l[j]? = some g → fldE t l fixed j g = 0) : fldsE t l fixed = 0 :=
  fldsE_go0 t l fixed l 0 fun j g hj => by rw [Nat.zero_add]; exact h j g hj
/-- error and row of 'replace': the row with the fields' values, or none -/
noncomputable def replE (t : Tb) (vs : List Vb) (l : List Fb) (fixed : Int) : Int :=
  if 10 < l.length then 3 else if fldsE t l fixed = 0 then rowT t (updR t vs l) else fldsE t l fixed
noncomputable def replR (t : Tb) (vs : List Vb) (l : List Fb) (fixed : Int) : List Vb := if replE t vs l fixed = 0 then updR t vs l else []
end Go.Proofs.YtmcgcanpaffggaaDoor

/-
  Rows of columns, tables and fields in memory; parameters of type api.Catalog, api.Table and []api.Field; structs compared.
-/
namespace Go.Proofs.YtmcgcanpaffggaaDoor
open Go.RowKit Go.WideShapes

theorem run_eql_V (w : World) (k n k' n' : Int) (s s' : ByteArray) : (binOp .eql 35 (VV k n s) (VV k' n' s')).run Tryd.prog w = .ok (.bool ((k == k') && ((n == n') && eqS s s'))) w := by
  cases h0 : (k == k') <;> cases h1 : (n == n') <;> cases h2 : (s.toList == s'.toList)
  all_goals simp [go_sem, h0, h1, h2]
theorem run_neq_V (w : World) (k n k' n' : Int) (s s' : ByteArray) : (binOp .neq 35 (VV k n s) (VV k' n' s')).run Tryd.prog w = .ok (.bool (!((k == k') && ((n == n') && eqS s s')))) w := by
  cases h0 : (k == k') <;> cases h1 : (n == n') <;> cases h2 : (s.toList == s'.toList)
  all_goals simp [go_sem, h0, h1, h2]
def eqC (a b : Cb) : Bool := (a.id == b.id) && (eqS a.nm b.nm && ((a.tk == b.tk) && ((a.tm == b.tm) && ((a.nl == b.nl) && ((a.dk == b.dk) && ((a.dn == b.dn) && eqS a.ds b.ds))))))
theorem run_eql_C (w : World) (a b : Cb) : (binOp .eql 37 (CV a) (CV b)).run Tryd.prog w = .ok (.bool (eqC a b)) w := by
  unfold eqC
  cases h0 : (a.id == b.id)
  · simp [go_sem, h0]
  cases h1 : (a.nm.toList == b.nm.toList)
  · simp [go_sem, h0, h1]
  cases h2 : (a.tk == b.tk)
  · simp [go_sem, h0, h1, h2]
  cases h3 : (a.tm == b.tm)
  · simp [go_sem, h0, h1, h2, h3]
  cases h4 : (a.nl == b.nl)
  · simp [go_sem, h0, h1, h2, h3, h4]
  cases h5 : (a.dk == b.dk)
  · simp [go_sem, h0, h1, h2, h3, h4, h5]
  cases h6 : (a.dn == b.dn)
  · simp [go_sem, h0, h1, h2, h3, h4, h5, h6]
  cases h7 : (a.ds.toList == b.ds.toList)
  · simp [go_sem, h0, h1, h2, h3, h4, h5, h6, h7]
  simp [go_sem, h0, h1, h2, h3, h4, h5, h6, h7]
theorem run_neq_C (w : World) (a b : Cb) : (binOp .neq 37 (CV a) (CV b)).run Tryd.prog w = .ok (.bool (!eqC a b)) w := by
  unfold eqC
  cases h0 : (a.id == b.id)
  · simp [go_sem, h0]
  cases h1 : (a.nm.toList == b.nm.toList)
  · simp [go_sem, h0, h1]
  cases h2 : (a.tk == b.tk)
  · simp [go_sem, h0, h1, h2]
  cases h3 : (a.tm == b.tm)
  · simp [go_sem, h0, h1, h2, h3]
  cases h4 : (a.nl == b.nl)
  · simp [go_sem, h0, h1, h2, h3, h4]
  cases h5 : (a.dk == b.dk)
  · simp [go_sem, h0, h1, h2, h3, h4, h5]
  cases h6 : (a.dn == b.dn)
  · simp [go_sem, h0, h1, h2, h3, h4, h5, h6]
  cases h7 : (a.ds.toList == b.ds.toList)
  · simp [go_sem, h0, h1, h2, h3, h4, h5, h6, h7]
  simp [go_sem, h0, h1, h2, h3, h4, h5, h6, h7]
theorem eqC_iff {a b : Cb} : eqC a b = true ↔ a = b := by
  obtain ⟨a1, a2, a3, a4, a5, a6, a7, a8⟩ := a
  obtain ⟨b1, b2, b3, b4, b5, b6, b7, b8⟩ := b
  have e2 : a2.toList = b2.toList ↔ a2 = b2 := by rw [← eqS_iff]; simp [eqS]
  have e8 : a8.toList = b8.toList ↔ a8 = b8 := by rw [← eqS_iff]; simp [eqS]
  simp only [eqC, Bool.and_eq_true, beq_iff_eq, Cb.mk.injEq, e2, e8]

/-! ### Rows of structs -/
def fC (c : Cb) : List Value := [.int .i64 c.id, .string c.nm, .int .i64 c.tk, .int .i64 c.tm, .bool c.nl, .int .i64 c.dk, .int .i64 c.dn, .string c.ds]
def fT (t : Tb) : List Value := [.int .i64 t.id, .string t.nm, .int .i64 t.key, .int .i64 t.nx, .slice t.A t.cols.length t.cap]
def fF (f : Fb) : List Value := [.string f.nm, .int .i64 f.k, .int .i64 f.n, .string f.s]
def fV (v : Vb) : List Value := [.int .i64 v.1, .int .i64 v.2.1, .string v.2.2]
/-- a slice of structs of m cells that lies below block B -/
def RowAt {α : Type} (m : Nat) (f : α → List Value) (w : World) (B : Nat) (A : Option Addr) (l : List α) : Prop :=
  0 < l.length → ∃ b off, A = some ⟨b, off, none⟩ ∧ b < B ∧ ∀ j x, l[j]? = some x → ∀ i v, (f x)[i]? = some v → w.cell? ⟨b, off + j * m + i, none⟩ = some v
theorem RowAt.below {α : Type} {m : Nat} {f : α → List Value} {w w' : World} {B : Nat} {A : Option Addr} {l : List α} (h : RowAt m f w B A l) (hb : Below B w w') : RowAt m f w' B A l := fun hl => by
  obtain ⟨b, off, rfl, h1, h2⟩ := h hl
  exact ⟨b, off, rfl, h1, fun j x hj i v hv => (hb.cell (p := ⟨b, off + j * m + i, none⟩) h1).trans (h2 j x hj i v hv)⟩
theorem RowAt.more {α : Type} {m : Nat} {f : α → List Value} {w : World} {B B' : Nat} {A : Option Addr} {l : List α} (h : RowAt m f w B A l) (hB : B ≤ B') : RowAt m f w B' A l := fun hl => by
  obtain ⟨b, off, rfl, h1, h2⟩ := h hl
  exact ⟨b, off, rfl, by omega, h2⟩
theorem RowAt.to {α : Type} {m : Nat} {f : α → List Value} {w w' : World} {A : Option Addr} {l : List α} (h : RowAt m f w w.heap.size A l) (hb : Below w.heap.size w w') : RowAt m f w' w'.heap.size A l := (h.below hb).more hb.size
/-- a shorter slice of the same -/
theorem RowAt.take {α : Type} {m : Nat} {f : α → List Value} {w : World} {B : Nat} {A : Option Addr} {l : List α} (h : RowAt m f w B A l) (n : Nat) : RowAt m f w B A (l.take n) := fun hl => by
  obtain ⟨b, off, rfl, h1, h2⟩ := h (by rw [List.length_take] at hl; omega)
  exact ⟨b, off, rfl, h1, fun j x hj i v hv => h2 j x (by rw [List.getElem?_take] at hj; split at hj; exact hj; cases hj) i v hv⟩
def ColsAt (w : World) (B : Nat) (A : Option Addr) (l : List Cb) : Prop := RowAt 8 fC w B A l
def FldsAt (w : World) (B : Nat) (A : Option Addr) (l : List Fb) : Prop := RowAt 4 fF w B A l
/-- what of a table lies elsewhere -/
def TabAt (w : World) (B : Nat) (t : Tb) : Prop := ColsAt w B t.A t.cols
def TabsAt (w : World) (B : Nat) (A : Option Addr) (l : List Tb) : Prop := RowAt 5 fT w B A l ∧ ∀ t ∈ l, TabAt w B t
theorem TabsAt.below {w w' : World} {B : Nat} {A : Option Addr} {l : List Tb} (h : TabsAt w B A l) (hb : Below B w w') : TabsAt w' B A l := ⟨h.1.below hb, fun t ht => RowAt.below (h.2 t ht) hb⟩
theorem TabsAt.more {w : World} {B B' : Nat} {A : Option Addr} {l : List Tb} (h : TabsAt w B A l) (hB : B ≤ B') : TabsAt w B' A l := ⟨h.1.more hB, fun t ht => RowAt.more (h.2 t ht) hB⟩
theorem TabsAt.to {w w' : World} {A : Option Addr} {l : List Tb} (h : TabsAt w w.heap.size A l) (hb : Below w.heap.size w w') : TabsAt w' w'.heap.size A l := (h.below hb).more hb.size
theorem TabsAt.take {w : World} {B : Nat} {A : Option Addr} {l : List Tb} (h : TabsAt w B A l) (n : Nat) : TabsAt w B A (l.take n) := ⟨h.1.take n, fun t ht => h.2 t (List.mem_of_mem_take ht)⟩
theorem ColsAt.get {w : World} {B : Nat} {A : Option Addr} {l : List Cb} (h : ColsAt w B A l) (k : Nat) (c : Cb) (hk : l[k]? = some c) : ∃ b off, A = some ⟨b, off, none⟩ ∧ b < B ∧
    w.cell? ⟨b, off + k * 8, none⟩ = some (.int .i64 c.id) ∧ w.cell? ⟨b, off + k * 8 + 1, none⟩ = some (.string c.nm) ∧ w.cell? ⟨b, off + k * 8 + 2, none⟩ = some (.int .i64 c.tk) ∧ w.cell? ⟨b, off + k * 8 + 3, none⟩ = some (.int .i64 c.tm) ∧
    w.cell? ⟨b, off + k * 8 + 4, none⟩ = some (.bool c.nl) ∧ w.cell? ⟨b, off + k * 8 + 5, none⟩ = some (.int .i64 c.dk) ∧ w.cell? ⟨b, off + k * 8 + 6, none⟩ = some (.int .i64 c.dn) ∧ w.cell? ⟨b, off + k * 8 + 7, none⟩ = some (.string c.ds) := by
  obtain ⟨b, off, rfl, h1, h2⟩ := h (by have := (List.getElem?_eq_some_iff.1 hk).1; omega)
  have := h2 k c hk
  exact ⟨b, off, rfl, h1, this 0 _ rfl, this 1 _ rfl, this 2 _ rfl, this 3 _ rfl, this 4 _ rfl, this 5 _ rfl, this 6 _ rfl, this 7 _ rfl⟩
theorem TabsAt.get {w : World} {B : Nat} {A : Option Addr} {l : List Tb} (h : TabsAt w B A l) (k : Nat) (t : Tb) (hk : l[k]? = some t) : ∃ b off, A = some ⟨b, off, none⟩ ∧ b < B ∧
    w.cell? ⟨b, off + k * 5, none⟩ = some (.int .i64 t.id) ∧ w.cell? ⟨b, off + k * 5 + 1, none⟩ = some (.string t.nm) ∧ w.cell? ⟨b, off + k * 5 + 2, none⟩ = some (.int .i64 t.key) ∧ w.cell? ⟨b, off + k * 5 + 3, none⟩ = some (.int .i64 t.nx) ∧
    w.cell? ⟨b, off + k * 5 + 4, none⟩ = some (.slice t.A t.cols.length t.cap) := by
  obtain ⟨b, off, rfl, h1, h2⟩ := h.1 (by have := (List.getElem?_eq_some_iff.1 hk).1; omega)
  have := h2 k t hk
  exact ⟨b, off, rfl, h1, this 0 _ rfl, this 1 _ rfl, this 2 _ rfl, this 3 _ rfl, this 4 _ rfl⟩
theorem FldsAt.get {w : World} {B : Nat} {A : Option Addr} {l : List Fb} (h : FldsAt w B A l) (k : Nat) (f : Fb) (hk : l[k]? = some f) : ∃ b off, A = some ⟨b, off, none⟩ ∧ b < B ∧
    w.cell? ⟨b, off + k * 4, none⟩ = some (.string f.nm) ∧ w.cell? ⟨b, off + k * 4 + 1, none⟩ = some (.int .i64 f.k) ∧ w.cell? ⟨b, off + k * 4 + 2, none⟩ = some (.int .i64 f.n) ∧ w.cell? ⟨b, off + k * 4 + 3, none⟩ = some (.string f.s) := by
  obtain ⟨b, off, rfl, h1, h2⟩ := h (by have := (List.getElem?_eq_some_iff.1 hk).1; omega)
  have := h2 k f hk
  exact ⟨b, off, rfl, h1, this 0 _ rfl, this 1 _ rfl, this 2 _ rfl, this 3 _ rfl⟩

/-! ### A struct in its box -/
def BlkN (w : World) (b : Nat) (vs : List Value) : Prop := ∀ i v, vs[i]? = some v → w.cell? ⟨b, i, none⟩ = some v
theorem BlkN.new (w : World) (b : Nat) (vs : List Value) (t : TypeId) (h : b = w.heap.size) : BlkN (w.alloc (.cells vs.toArray t)) b vs := fun i v hv => by
  subst h
  simp [hv]
theorem BlkN.below {w w1 : World} {b B : Nat} {vs : List Value} (h : BlkN w b vs) (hb : Below B w w1) (hB : b < B) : BlkN w1 b vs := fun i v hv => (hb.cell (p := ⟨b, i, none⟩) hB).trans (h i v hv)
theorem BlkN.alloc {w : World} {b : Nat} {vs : List Value} (h : BlkN w b vs) (hb : b < w.heap.size) (o : Obj) : BlkN (w.alloc o) b vs := h.below ((Below.refl w.heap.size w).alloc (Nat.le_refl _) o) hb
/-- a table in its box -/
theorem BlkN.tab {w : World} {b : Nat} {t : Tb} (h : BlkN w b (fT t)) : w.cell? ⟨b, 0, none⟩ = some (.int .i64 t.id) ∧ w.cell? ⟨b, 1, none⟩ = some (.string t.nm) ∧ w.cell? ⟨b, 2, none⟩ = some (.int .i64 t.key) ∧ w.cell? ⟨b, 3, none⟩ = some (.int .i64 t.nx) ∧ w.cell? ⟨b, 4, none⟩ = some (.slice t.A t.cols.length t.cap) :=
  ⟨h 0 _ rfl, h 1 _ rfl, h 2 _ rfl, h 3 _ rfl, h 4 _ rfl⟩
theorem BlkN.col {w : World} {b : Nat} {c : Cb} (h : BlkN w b (fC c)) : w.cell? ⟨b, 0, none⟩ = some (.int .i64 c.id) ∧ w.cell? ⟨b, 1, none⟩ = some (.string c.nm) ∧ w.cell? ⟨b, 2, none⟩ = some (.int .i64 c.tk) ∧ w.cell? ⟨b, 3, none⟩ = some (.int .i64 c.tm) ∧
    w.cell? ⟨b, 4, none⟩ = some (.bool c.nl) ∧ w.cell? ⟨b, 5, none⟩ = some (.int .i64 c.dk) ∧ w.cell? ⟨b, 6, none⟩ = some (.int .i64 c.dn) ∧ w.cell? ⟨b, 7, none⟩ = some (.string c.ds) :=
  ⟨h 0 _ rfl, h 1 _ rfl, h 2 _ rfl, h 3 _ rfl, h 4 _ rfl, h 5 _ rfl, h 6 _ rfl, h 7 _ rfl⟩
theorem BlkN.fld {w : World} {b : Nat} {f : Fb} (h : BlkN w b (fF f)) : w.cell? ⟨b, 0, none⟩ = some (.string f.nm) ∧ w.cell? ⟨b, 1, none⟩ = some (.int .i64 f.k) ∧ w.cell? ⟨b, 2, none⟩ = some (.int .i64 f.n) ∧ w.cell? ⟨b, 3, none⟩ = some (.string f.s) :=
  ⟨h 0 _ rfl, h 1 _ rfl, h 2 _ rfl, h 3 _ rfl⟩
theorem BlkN.one {w : World} {b : Nat} {v : Value} (h : BlkN w b [v]) : w.cell? ⟨b, 0, none⟩ = some v := h 0 _ rfl

end Go.Proofs.YtmcgcanpaffggaaDoor

/-
  The mathematics of keys (layer 7): the most significant bit turned; bytes put and read, the most significant one first.
-/
namespace Go.Proofs.YtmcgcanpaffggaaDoor
open Go.RowKit

theorem xor_hi (k r : Nat) (h : r < 2 ^ k) : r ^^^ 2 ^ k = r + 2 ^ k := by
  apply Nat.eq_of_testBit_eq
  intro i
  have e := Nat.testBit_two_pow_mul_add 1 h i
  rw [Nat.mul_one] at e
  rw [Nat.testBit_xor, Nat.add_comm r, e, Nat.testBit_two_pow]
  by_cases hi : i < k
  · simp [hi, show ¬ k = i by omega]
  · rw [if_neg hi, Nat.testBit_lt_two_pow (Nat.lt_of_lt_of_le h (Nat.pow_le_pow_right (by omega) (show k ≤ i by omega)))]
    by_cases hk : k = i
    · subst hk; simp
    · have : (1 : Nat).testBit (i - k) = false := Nat.testBit_lt_two_pow (Nat.one_lt_two_pow (by omega))
      simp [hk, this]
/-- the bit above k bits turned -/
theorem xor_top (k r : Nat) (h : r < 2 ^ (k + 1)) : r ^^^ 2 ^ k = (r + 2 ^ k) % 2 ^ (k + 1) := by
  rw [Nat.pow_succ] at h ⊢
  by_cases h1 : r < 2 ^ k
  · rw [xor_hi k r h1]
    generalize 2 ^ k = P at *
    rw [Nat.mod_eq_of_lt (by omega)]
  · obtain ⟨q, rfl⟩ : ∃ q, r = q + 2 ^ k := ⟨r - 2 ^ k, by omega⟩
    have hq : q < 2 ^ k := by omega
    have e := xor_hi k q hq
    rw [← e, Nat.xor_assoc, Nat.xor_self, Nat.xor_zero, e]
    generalize 2 ^ k = P at *
    rw [show q + P + P = q + P * 2 by omega, Nat.add_mod_right, Nat.mod_eq_of_lt (by omega)]
theorem be_mod (w n : Nat) : be w n = be w (n % 256 ^ w) := by
  induction w generalizing n with
  | zero => rfl
  | succ w ih =>
    rw [be_succ, be_succ]
    have e : n % 256 ^ (w + 1) / 256 ^ w % 256 = n / 256 ^ w % 256 := by
      rw [Nat.pow_succ, Nat.mod_mul_right_div_self, Nat.mod_mod]
    have e2 : be w (n % 256 ^ (w + 1)) = be w n := by
      rw [ih (n % 256 ^ (w + 1)), Nat.mod_mod_of_dvd _ ⟨256, by rw [Nat.pow_succ]⟩, ← ih n]
    rw [e, e2]
theorem be_at (w n : Nat) : ∀ j, j < w → (be w n)[j]? = some (UInt8.ofNat (n / 256 ^ (w - 1 - j) % 256)) := by
  induction w with
  | zero => intro j hj; omega
  | succ w ih =>
    intro j hj
    rw [be_succ]
    cases j with
    | zero => simp
    | succ j => rw [List.getElem?_cons_succ, ih j (by omega), show w + 1 - 1 - (j + 1) = w - 1 - j by omega]
theorem be_take (w n k : Nat) (hk : k < w) : (be w n).take (w - k) = (be w n).take (w - (k + 1)) ++ [UInt8.ofNat (n / 256 ^ k % 256)] := by
  have h := be_at w n (w - (k + 1)) (by omega)
  rw [show w - 1 - (w - (k + 1)) = k by omega] at h
  obtain ⟨h1, h2⟩ := List.getElem?_eq_some_iff.1 h
  rw [show w - k = w - (k + 1) + 1 by omega, List.take_succ_eq_append_getElem h1, h2]

/-- the number that is written for one of 32 bits -/
theorem put4 (n : Int) (h1 : -2147483648 ≤ n) (h2 : n < 2147483648) : ∃ W : Nat, bits .xor .u64 (IntKind.u64.wrap n) 2147483648 = (W : Int) ∧ W < 18446744073709551616 ∧ be 4 W = be 4 (n + 2147483648).toNat := by
  rw [IntKind.wrap_u64]
  obtain ⟨x, hx⟩ := Int.eq_ofNat_of_zero_le (a := n % 18446744073709551616) (by omega)
  rw [hx]
  refine ⟨x ^^^ 2147483648, bits_xor_u64_nat x 2147483648 (by omega) (by omega), Nat.xor_lt_two_pow (n := 64) (by omega) (by omega), ?_⟩
  rw [be_mod 4 (x ^^^ 2147483648)]
  have e : (x ^^^ 2147483648) % 256 ^ 4 = (n + 2147483648).toNat := by
    show (x ^^^ 2147483648) % 2 ^ 32 = _
    rw [Nat.xor_mod_two_pow]
    show x % 2 ^ 32 ^^^ 2 ^ 31 = _
    rw [xor_top 31 _ (Nat.mod_lt _ (by omega))]
    simp only [Nat.reducePow, Nat.reduceAdd]
    omega
  rw [e]
/-- the number that is written for one of 64 bits -/
theorem put8 (n : Int) (h1 : -9223372036854775808 ≤ n) (h2 : n < 9223372036854775808) : ∃ W : Nat, bits .xor .u64 (IntKind.u64.wrap n) 9223372036854775808 = (W : Int) ∧ W < 18446744073709551616 ∧ be 8 W = be 8 (n + 9223372036854775808).toNat := by
  rw [IntKind.wrap_u64]
  obtain ⟨x, hx⟩ := Int.eq_ofNat_of_zero_le (a := n % 18446744073709551616) (by omega)
  rw [hx]
  refine ⟨x ^^^ 9223372036854775808, bits_xor_u64_nat x 9223372036854775808 (by omega) (by omega), Nat.xor_lt_two_pow (n := 64) (by omega) (by omega), ?_⟩
  have e : x ^^^ 9223372036854775808 = (n + 9223372036854775808).toNat := by
    show x ^^^ 2 ^ 63 = _
    rw [xor_top 63 _ (by simp only [Nat.reducePow, Nat.reduceAdd]; omega)]
    simp only [Nat.reducePow, Nat.reduceAdd]
    omega
  rw [e]

theorem unbe_snoc (l : List UInt8) (c : UInt8) : unbe (l ++ [c]) = unbe l * 256 + c.toNat := by
  unfold unbe
  rw [List.reverse_append]
  show unle (c :: l.reverse) = _
  rw [unle]; omega
theorem unbe_take {l : List UInt8} {k : Nat} {c : UInt8} (h : l[k]? = some c) : unbe (l.take (k + 1)) = unbe (l.take k) * 256 + c.toNat := by
  obtain ⟨h1, rfl⟩ := List.getElem?_eq_some_iff.1 h
  rw [List.take_succ_eq_append_getElem h1, unbe_snoc]
theorem unbe_lt (l : List UInt8) : unbe l < 256 ^ l.length := by
  have := unle_lt l.reverse
  rw [List.length_reverse] at this; exact this
/-- one byte more, the most significant one first, as the program puts it -/
theorem or_low (x c : Nat) (hc : c < 256) (hx : x < 72057594037927936) : bits BinOp.or IntKind.u64 (IntKind.u64.wrap ((x : Int) * 256)) (c : Int) = ((x * 256 + c : Nat) : Int) := by
  rw [IntKind.wrap_u64, show ((x : Int) * 256) % 18446744073709551616 = ((x * 256 : Nat) : Int) by omega, u64_or_nat _ _ (by omega) (by omega), nat_join 8 _ _ (by omega) (by simpa using hc)]
theorem get4 (x : Nat) (h : x < 4294967296) : IntKind.i32.wrap ((x ^^^ 2147483648 : Nat) : Int) = (x : Int) - 2147483648 := by
  have e := xor_top 31 x h
  simp only [Nat.reducePow, Nat.reduceAdd] at e
  rw [e]
  simp [IntKind.wrap, IntKind.bits, IntKind.signed]; omega
theorem get8 (x : Nat) (h : x < 18446744073709551616) : IntKind.i64.wrap ((x ^^^ 9223372036854775808 : Nat) : Int) = (x : Int) - 9223372036854775808 := by
  have e := xor_top 63 x h
  simp only [Nat.reducePow, Nat.reduceAdd] at e
  rw [e, wrap_i64_eq]
  omega
end Go.Proofs.YtmcgcanpaffggaaDoor

/-
  Contracts of package sortkey: topBit, appendNumber, appendString, appendKey.
-/
namespace Go.Proofs.YtmcgcanpaffggaaDoor
open Go.RowKit

theorem esc_append : ∀ (a b : List UInt8), esc (a ++ b) = esc a ++ esc b
  | [], b => rfl
  | c :: r, b => by
    have ih := esc_append r b
    by_cases h : c = 0 <;> simp [esc, h, ih]
theorem esc_len : ∀ l : List UInt8, (esc l).length ≤ 2 * l.length
  | [] => by simp [esc]
  | c :: r => by
    have ih := esc_len r
    by_cases h : c = 0 <;> simp [esc, h] <;> omega
theorem esc_at0 {l : List UInt8} {k : Nat} {c : UInt8} (h : l[k]? = some c) (hc : c = 0) : esc (l.take (k + 1)) = esc (l.take k) ++ [c] ++ [255] := by
  obtain ⟨h1, rfl⟩ := List.getElem?_eq_some_iff.1 h
  rw [List.take_succ_eq_append_getElem h1, esc_append, hc]; simp [esc]
theorem esc_at1 {l : List UInt8} {k : Nat} {c : UInt8} (h : l[k]? = some c) (hc : c ≠ 0) : esc (l.take (k + 1)) = esc (l.take k) ++ [c] := by
  obtain ⟨h1, rfl⟩ := List.getElem?_eq_some_iff.1 h
  rw [List.take_succ_eq_append_getElem h1, esc_append]; simp [esc, hc]
/-- two bytes appended -/
theorem wpList_append_byte2 {w : World} {ops : Array Oper} {rest : List Oper} {o : Oper} {a : Act} {Q : Exit → Act → World → Prop} (hgd : o.guard = none) (s x : Operand)
    (ho : o.op = .call { callee := .builtin .append, args := #[s, x], argTypes := #[122, 122] })
    (base : Nat) (v : Value) (l : List UInt8) (c d : UInt8) (z y : Int)
    (hown : OwnB w base v l) (hs : a.eval s = v) (hx : a.eval x = .slice (some ⟨w.heap.size, 0, none⟩) 2 2) (hz : z = (c.toNat : Int)) (hy : y = (d.toNat : Int)) (hlen : l.length < 1099511627000) (hbase : base ≤ w.heap.size)
    (h : ∀ v' w', OwnB w' base v' (l ++ [c, d]) → Below base w w' → wpList Tryd.prog ops Q rest (a.put o.dst v') w') :
    wpList Tryd.prog ops Q (o :: rest) a (w.alloc (.cells #[.int .u8 z, .int .u8 y] 5)) := by
  subst hz hy
  obtain ⟨i0, hi, hz0, hz1, hz2⟩ := info_parts info8
  refine wpList_append_own _ hgd s x 122 ho base 5 i0 (.int .u8 0) 1 1 Tryd.underlying122 hi hz0 hz1 hz2 rfl (by decide) v l.length (B8 l) hs (World.ownsRow.alloc hown _)
    ⟨w.heap.size, 0, none⟩ 2 2 [.int .u8 (c.toNat : Int), .int .u8 (d.toNat : Int)] hx rfl (fun j u hj => ?_) (fun u hu => ?_) (by unfold maxLen; omega) (by omega) (by simp; omega) ?_
  · match j, hj with
    | 0, hj => simp at hj; subst hj; simp [Addr.add]
    | 1, hj => simp at hj; subst hj; simp [Addr.add]
    | j + 2, hj => simp at hj
  · simp at hu; rcases hu with rfl | rfl <;> rfl
  · intro v' w' h1 h2 _
    refine h v' w' ?_ (((Below.refl base w).alloc hbase _).grown h2 (by simp; omega) (fun k hk => ?_))
    · unfold OwnB
      rw [B8_append, List.length_append]
      exact h1
    · exact ((World.ownsRow.lt hown) k hk).1
theorem u8_zero {c : UInt8} (h : c.toNat = 0) : c = 0 := UInt8.toNat_inj.1 h
theorem u8_nonzero {c : UInt8} (h : ¬ c.toNat = 0) : c ≠ 0 := fun e => h (by rw [e]; rfl)

/-- one byte appended, while a block of three cells lies aside -/
theorem wpList_append_byte_keep {w : World} {ops : Array Oper} {rest : List Oper} {o : Oper} {a : Act} {Q : Exit → Act → World → Prop} (hgd : o.guard = none) (s x : Operand)
    (ho : o.op = .call { callee := .builtin .append, args := #[s, x], argTypes := #[122, 122] })
    (base : Nat) (v : Value) (l : List UInt8) (c : UInt8) (z : Int) (b g : Nat) (x0 x1 x2 : Value)
    (hown : OwnB w base v l) (hs : a.eval s = v) (hx : a.eval x = .slice (some ⟨g, 0, none⟩) 1 1) (hg : g = w.heap.size) (hz : z = (c.toNat : Int)) (hlen : l.length < 1099511627776) (hbase : base ≤ w.heap.size)
    (hk : Blk3 w b x0 x1 x2) (hlt : b < w.heap.size) (hne : some b ≠ v.ownBlock)
    (h : ∀ v' w', OwnB w' base v' (l ++ [c]) → Below base w w' → Blk3 w' b x0 x1 x2 → b < w'.heap.size → wpList Tryd.prog ops Q rest (a.put o.dst v') w') :
    wpList Tryd.prog ops Q (o :: rest) a (w.alloc (.cells #[.int .u8 z] 5)) := by
  subst hz hg
  obtain ⟨i0, hi, hz0, hz1, hz2⟩ := info_parts info8
  refine wpList_append_own _ hgd s x 122 ho base 5 i0 (.int .u8 0) 1 1 Tryd.underlying122 hi hz0 hz1 hz2 rfl (by decide) v l.length (B8 l) hs (World.ownsRow.alloc hown _)
    ⟨w.heap.size, 0, none⟩ 1 1 [.int .u8 (c.toNat : Int)] hx rfl (fun j u hj => ?_) (fun u hu => ?_) (by unfold maxLen; omega) (by omega) (by simp; omega) ?_
  · match j, hj with
    | 0, hj => simp at hj; subst hj; simp [Addr.add]
  · simp at hu; subst hu; rfl
  · intro v' w' h1 h2 _
    have hsz := h2.size
    simp at hsz
    have q : ∀ i, w'.cell? ⟨b, i, none⟩ = w.cell? ⟨b, i, none⟩ ∧ w'.frozen? ⟨b, i, none⟩ = w.frozen? ⟨b, i, none⟩ := fun i => by
      have h3 := (Below.refl w.heap.size w).alloc (Nat.le_refl _) (.cells #[.int .u8 (c.toNat : Int)] 5)
      have e := h2.block b (by simp; omega) hne
      exact ⟨(World.cell?_of_block (w := w.alloc (.cells #[.int .u8 (c.toNat : Int)] 5)) e).trans (h3.cell (p := ⟨b, i, none⟩) hlt), (World.frozen?_of_block (w := w.alloc (.cells #[.int .u8 (c.toNat : Int)] 5)) e).trans (h3.frozen (p := ⟨b, i, none⟩) hlt)⟩
    obtain ⟨c0, c1, c2, f0, f1, f2⟩ := hk
    refine h v' w' ?_ (((Below.refl base w).alloc hbase _).grown h2 (by simp; omega) (fun k hk => ?_)) ⟨(q 0).1.trans c0, (q 1).1.trans c1, (q 2).1.trans c2, (q 0).2.trans f0, (q 1).2.trans f1, (q 2).2.trans f2⟩ (by omega)
    · unfold OwnB
      rw [B8_append, List.length_append]
      exact h1
    · exact ((World.ownsRow.lt hown) k hk).1
/-- the key of a value lies behind the row -/
def PutKey (w : World) (B : Nat) (l : List UInt8) (e : Ending) (w' : World) : Prop := ∃ v', e = .returned v' ∧ OwnB w' B v' l ∧ Below B w w'
theorem own_far {w : World} {B : Nat} {v : Value} {l : List UInt8} (h : OwnB w B v l) : some w.heap.size ≠ v.ownBlock := fun e => by
  have := (World.ownsRow.lt h _ e.symm).2
  omega
theorem kind_byte {k : Int} (c : UInt8) (h : (c.toNat : Int) = k) (h2 : 0 ≤ k ∧ k < 256) : k % 256 = (c.toNat : Int) := by omega

end Go.Proofs.YtmcgcanpaffggaaDoor

/-
  Contract of package sortkey's Of.
-/
namespace Go.Proofs.YtmcgcanpaffggaaDoor
open Go.RowKit

theorem bthen {w a b : World} (h : Below w.heap.size w a) (h2 : Below a.heap.size a b) : Below w.heap.size w b := h.trans (h2.mono h.size)
theorem new_lt' {w w1 : World} {o : Obj} (hb : Below (w.alloc o).heap.size (w.alloc o) w1) : w.heap.size < w1.heap.size := by have := hb.size; simp at this; omega
/-- are all of them right? -/
def allR (l : List Vl) : Bool := l.all rightL
theorem allR_take {l : List Vl} (h : allR l = true) (k : Nat) : allR (l.take k) = true := by
  unfold allR at *
  rw [List.all_eq_true] at *
  exact fun x hx => h x (List.mem_of_mem_take hx)
theorem allR_not {l : List Vl} {k : Nat} {v : Vl} (hk : l[k]? = some v) (hv : rightL v = false) : allR l = false := by
  cases h : allR l with
  | false => rfl
  | true =>
    unfold allR at h
    rw [List.all_eq_true] at h
    have := h v (List.mem_of_getElem? hk)
    rw [hv] at this; cases this
theorem allR_of {l : List Vl} (h : ∀ (k : Nat) v, l[k]? = some v → rightL v = true) : allR l = true := by
  unfold allR
  rw [List.all_eq_true]
  intro x hx
  obtain ⟨k, hk⟩ := List.mem_iff_getElem?.1 hx
  exact h k x hk
/-- what Of returns -/
def ofV (l : List Vl) : Value := if allR l then .tuple #[.string ⟨(ofK l).toArray⟩, .int .i64 0] else .tuple #[.string ⟨#[]⟩, .int .i64 2]
theorem key_len {k n : Int} {l : List UInt8} (h : rightV k n l = true) : (key k n l).length ≤ 243 := by
  rcases rightV_form h with ⟨rfl, rfl, rfl⟩ | ⟨rfl, p1, p2, rfl⟩ | ⟨rfl, rfl⟩ | ⟨rfl, rfl, hl, hs⟩ | ⟨rfl, rfl, hl⟩
  · simp [key_0]
  · rw [key_1, List.length_cons, be_length]; omega
  · rw [key_2, List.length_cons, be_length]; omega
  · have := esc_len l
    rw [key_3, List.length_cons, List.length_append]; simp; omega
  · have := esc_len l
    rw [key_4, List.length_cons, List.length_append]; simp; omega
theorem ofK_len : ∀ {l : List Vl}, allR l = true → (ofK l).length ≤ 243 * l.length
  | [], _ => by simp [ofK]
  | v :: l, h => by
    have h' : rightL v = true ∧ allR l = true := by simpa [allR] using h
    have ih := ofK_len h'.2
    have := key_len (k := v.1) (n := v.2.1) (l := v.2.2) h'.1
    rw [ofK_cons, List.length_append, List.length_cons]
    unfold keyL; omega
theorem ofK_take {l : List Vl} {k : Nat} {v : Vl} (h : l[k]? = some v) : ofK (l.take (k + 1)) = ofK (l.take k) ++ keyL v := by
  obtain ⟨h1, rfl⟩ := List.getElem?_eq_some_iff.1 h
  rw [List.take_succ_eq_append_getElem h1, ofK_snoc]

end Go.Proofs.YtmcgcanpaffggaaDoor

/-
  Contracts of package schema's generic 'first', at tables, columns and fields, for whatever function it is handed.
-/
namespace Go.Proofs.YtmcgcanpaffggaaDoor
open Go.RowKit

set_option maxRecDepth 100000 in
set_option maxHeartbeats 800000 in
theorem firstT_any (A : Option Addr) (cp : Nat) (l : List Tb) (F : Nat) (caps : Array Value) (p : Tb → Bool) (w : World) (hA : TabsAt w w.heap.size A l) (hl : l.length ≤ 1000000)
    (hF : ∀ args w, (callFunc F args).run Tryd.prog w = .ok (.enter F args) w)
    (hcall : ∀ x ∈ l, ∀ w', Below w.heap.size w w' → Calls Tryd.prog F (#[TV x] ++ caps) w' fun e w2 => e = .returned (.bool (p x)) ∧ Below w'.heap.size w' w2) :
    Calls Tryd.prog 57 #[.slice A l.length cp, .func (.func F) #[] caps] w fun e w' => e = .returned (fstV (l.findIdx? p)) ∧ Below w.heap.size w w' := by
  have HA := Lib.hid hA; clear hA
  have HC := Lib.hid hcall; clear hcall
  go_enter Tryd.func57, Tryd.ntmps57
  go_wp2_with fail
  go_loopw [10] (fun i wr => ∃ k : Nat, k ≤ l.length ∧ i = .int .i64 k ∧ Hid (∀ j x, l[j]? = some x → j < k → p x = false) ∧ Below w.heap.size w wr) (fun i _ => l.length - (intOf i).toNat)
  case atStart => exact ⟨0, by omega, rfl, fun j v _ h => absurd h (by omega), Below.refl _ _⟩
  case round =>
    obtain ⟨k, hk, rfl, hall, hb⟩ := hrel
    have hsz2 := hb.size
    by_cases hlt : k < l.length
    · obtain ⟨x, hx⟩ : ∃ x, l[k]? = some x := ⟨l[k], by simp [hlt]⟩
      have Hx := Lib.hid hx
      obtain ⟨b, off, rfl, hbB, c0, c1, c2, c3, c4⟩ := (HA.out.below hb).get k x hx
      have Hcl := Lib.hid (HC.out x (List.mem_of_getElem? hx))
      have hbn := hb.trans (((Below.refl wr.heap.size wr).alloc (Nat.le_refl _) (.cells (fT x).toArray 29)).mono hsz2)
      have Hbn := Lib.hid hbn; clear hbn hx
      cases hp : p x
      · rw [hp] at Hcl
        have Hall : Hid (∀ j x, l[j]? = some x → j < k + 1 → p x = false) := fun j y hj hk => by
          by_cases e : j = k
          · subst e
            rw [Hx.out] at hj
            cases hj
            exact hp
          · exact hall.out j y hj (by omega)
        clear hp
        go_wp2_with fail
        refine (Hcl.out _ Hbn.out).mono ?_
        rintro e w1 ⟨rfl, hb1⟩
        have Hb1 := Lib.hid (bthen Hbn.out hb1); clear hb1
        go_wp2_with fail
        go_roundw
        case rel => exact ⟨k + 1, by omega, by go_num, Hall.out, Hb1.out⟩
        case measure => simp [intOf]; omega
      · rw [hp] at Hcl
        have Hfi : Hid (l.findIdx? p = some k) := find_at hall.out Hx.out hp
        clear hp
        go_wp2_with fail
        refine (Hcl.out _ Hbn.out).mono ?_
        rintro e w1 ⟨rfl, hb1⟩
        have Hb1 := Lib.hid (bthen Hbn.out hb1); clear hb1
        go_wp2_with fail
        go_ret2
        exact ⟨by rw [Hfi.out]; rfl, Hb1.out⟩
    · have Hfi : Hid (l.findIdx? p = none) := find_no fun j x hj => hall.out j x hj (by have := (List.getElem?_eq_some_iff.1 hj).1; omega)
      go_wp2_with fail
      go_ret2
      exact ⟨by rw [Hfi.out]; rfl, hb⟩

set_option maxRecDepth 100000 in
set_option maxHeartbeats 800000 in
theorem firstC_any (A : Option Addr) (cp : Nat) (l : List Cb) (F : Nat) (caps : Array Value) (p : Cb → Bool) (w : World) (hA : ColsAt w w.heap.size A l) (hl : l.length ≤ 1000000)
    (hF : ∀ args w, (callFunc F args).run Tryd.prog w = .ok (.enter F args) w)
    (hcall : ∀ x ∈ l, ∀ w', Below w.heap.size w w' → Calls Tryd.prog F (#[CV x] ++ caps) w' fun e w2 => e = .returned (.bool (p x)) ∧ Below w'.heap.size w' w2) :
    Calls Tryd.prog 61 #[.slice A l.length cp, .func (.func F) #[] caps] w fun e w' => e = .returned (fstV (l.findIdx? p)) ∧ Below w.heap.size w w' := by
  have HA := Lib.hid hA; clear hA
  have HC := Lib.hid hcall; clear hcall
  go_enter Tryd.func61, Tryd.ntmps61
  go_wp2_with fail
  go_loopw [10] (fun i wr => ∃ k : Nat, k ≤ l.length ∧ i = .int .i64 k ∧ Hid (∀ j x, l[j]? = some x → j < k → p x = false) ∧ Below w.heap.size w wr) (fun i _ => l.length - (intOf i).toNat)
  case atStart => exact ⟨0, by omega, rfl, fun j v _ h => absurd h (by omega), Below.refl _ _⟩
  case round =>
    obtain ⟨k, hk, rfl, hall, hb⟩ := hrel
    have hsz2 := hb.size
    by_cases hlt : k < l.length
    · obtain ⟨x, hx⟩ : ∃ x, l[k]? = some x := ⟨l[k], by simp [hlt]⟩
      have Hx := Lib.hid hx
      obtain ⟨b, off, rfl, hbB, c0, c1, c2, c3, c4, c5, c6, c7⟩ := (ColsAt.get (RowAt.below HA.out hb) k x hx)
      have Hcl := Lib.hid (HC.out x (List.mem_of_getElem? hx))
      have hbn := hb.trans (((Below.refl wr.heap.size wr).alloc (Nat.le_refl _) (.cells (fC x).toArray 37)).mono hsz2)
      have Hbn := Lib.hid hbn; clear hbn hx
      cases hp : p x
      · rw [hp] at Hcl
        have Hall : Hid (∀ j x, l[j]? = some x → j < k + 1 → p x = false) := fun j y hj hk => by
          by_cases e : j = k
          · subst e
            rw [Hx.out] at hj
            cases hj
            exact hp
          · exact hall.out j y hj (by omega)
        clear hp
        go_wp2_with fail
        refine (Hcl.out _ Hbn.out).mono ?_
        rintro e w1 ⟨rfl, hb1⟩
        have Hb1 := Lib.hid (bthen Hbn.out hb1); clear hb1
        go_wp2_with fail
        go_roundw
        case rel => exact ⟨k + 1, by omega, by go_num, Hall.out, Hb1.out⟩
        case measure => simp [intOf]; omega
      · rw [hp] at Hcl
        have Hfi : Hid (l.findIdx? p = some k) := find_at hall.out Hx.out hp
        clear hp
        go_wp2_with fail
        refine (Hcl.out _ Hbn.out).mono ?_
        rintro e w1 ⟨rfl, hb1⟩
        have Hb1 := Lib.hid (bthen Hbn.out hb1); clear hb1
        go_wp2_with fail
        go_ret2
        exact ⟨by rw [Hfi.out]; rfl, Hb1.out⟩
    · have Hfi : Hid (l.findIdx? p = none) := find_no fun j x hj => hall.out j x hj (by have := (List.getElem?_eq_some_iff.1 hj).1; omega)
      go_wp2_with fail
      go_ret2
      exact ⟨by rw [Hfi.out]; rfl, hb⟩

set_option maxRecDepth 100000 in
set_option maxHeartbeats 800000 in
theorem firstF_any (A : Option Addr) (cp : Nat) (l : List Fb) (F : Nat) (caps : Array Value) (p : Fb → Bool) (w : World) (hA : FldsAt w w.heap.size A l) (hl : l.length ≤ 1000000)
    (hF : ∀ args w, (callFunc F args).run Tryd.prog w = .ok (.enter F args) w)
    (hcall : ∀ x ∈ l, ∀ w', Below w.heap.size w w' → Calls Tryd.prog F (#[FV x] ++ caps) w' fun e w2 => e = .returned (.bool (p x)) ∧ Below w'.heap.size w' w2) :
    Calls Tryd.prog 99 #[.slice A l.length cp, .func (.func F) #[] caps] w fun e w' => e = .returned (fstV (l.findIdx? p)) ∧ Below w.heap.size w w' := by
  have HA := Lib.hid hA; clear hA
  have HC := Lib.hid hcall; clear hcall
  go_enter Tryd.func99, Tryd.ntmps99
  go_wp2_with fail
  go_loopw [10] (fun i wr => ∃ k : Nat, k ≤ l.length ∧ i = .int .i64 k ∧ Hid (∀ j x, l[j]? = some x → j < k → p x = false) ∧ Below w.heap.size w wr) (fun i _ => l.length - (intOf i).toNat)
  case atStart => exact ⟨0, by omega, rfl, fun j v _ h => absurd h (by omega), Below.refl _ _⟩
  case round =>
    obtain ⟨k, hk, rfl, hall, hb⟩ := hrel
    have hsz2 := hb.size
    by_cases hlt : k < l.length
    · obtain ⟨x, hx⟩ : ∃ x, l[k]? = some x := ⟨l[k], by simp [hlt]⟩
      have Hx := Lib.hid hx
      obtain ⟨b, off, rfl, hbB, c0, c1, c2, c3⟩ := (FldsAt.get (RowAt.below HA.out hb) k x hx)
      have Hcl := Lib.hid (HC.out x (List.mem_of_getElem? hx))
      have hbn := hb.trans (((Below.refl wr.heap.size wr).alloc (Nat.le_refl _) (.cells (fF x).toArray 76)).mono hsz2)
      have Hbn := Lib.hid hbn; clear hbn hx
      cases hp : p x
      · rw [hp] at Hcl
        have Hall : Hid (∀ j x, l[j]? = some x → j < k + 1 → p x = false) := fun j y hj hk => by
          by_cases e : j = k
          · subst e
            rw [Hx.out] at hj
            cases hj
            exact hp
          · exact hall.out j y hj (by omega)
        clear hp
        go_wp2_with fail
        refine (Hcl.out _ Hbn.out).mono ?_
        rintro e w1 ⟨rfl, hb1⟩
        have Hb1 := Lib.hid (bthen Hbn.out hb1); clear hb1
        go_wp2_with fail
        go_roundw
        case rel => exact ⟨k + 1, by omega, by go_num, Hall.out, Hb1.out⟩
        case measure => simp [intOf]; omega
      · rw [hp] at Hcl
        have Hfi : Hid (l.findIdx? p = some k) := find_at hall.out Hx.out hp
        clear hp
        go_wp2_with fail
        refine (Hcl.out _ Hbn.out).mono ?_
        rintro e w1 ⟨rfl, hb1⟩
        have Hb1 := Lib.hid (bthen Hbn.out hb1); clear hb1
        go_wp2_with fail
        go_ret2
        exact ⟨by rw [Hfi.out]; rfl, Hb1.out⟩
    · have Hfi : Hid (l.findIdx? p = none) := find_no fun j x hj => hall.out j x hj (by have := (List.getElem?_eq_some_iff.1 hj).1; omega)
      go_wp2_with fail
      go_ret2
      exact ⟨by rw [Hfi.out]; rfl, hb⟩

end Go.Proofs.YtmcgcanpaffggaaDoor

/-
  Contracts of package schema's Find, ById, Col, Key, hasField and of their function literals.
-/
namespace Go.Proofs.YtmcgcanpaffggaaDoor
open Go.RowKit

theorem keep_alloc {w : World} {a : Addr} {v : Value} (h : w.cell? a = some v) (o : Obj) : (w.alloc o).cell? a = some v :=
  (((Below.refl w.heap.size w).alloc (Nat.le_refl _) o).cell (World.block_lt_of_cell? w a h)).trans h
theorem below_two (w : World) (o o2 : Obj) : Below w.heap.size w ((w.alloc o).alloc o2) := ((Below.refl _ _).alloc (Nat.le_refl _) o).alloc (by simp) o2
theorem below_one (w : World) (o : Obj) : Below w.heap.size w (w.alloc o) := (Below.refl _ _).alloc (Nat.le_refl _) o

theorem find1_any (x : Tb) (b : Nat) (s : ByteArray) (w : World) (hc : w.cell? ⟨b, 0, none⟩ = some (.string s)) :
    Calls Tryd.prog 58 #[TV x, .pointer (some ⟨b, 0, none⟩)] w fun e w' => e = .returned (.bool (eqS x.nm s)) ∧ Below w.heap.size w w' := by
  have hk := keep_alloc hc
  go_enter Tryd.func58, Tryd.ntmps58
  go_wp2_with fail
  go_ret
  exact ⟨rfl, by go_grown⟩
theorem byId1_any (x : Tb) (b : Nat) (s : Int) (w : World) (hc : w.cell? ⟨b, 0, none⟩ = some (.int .i64 s)) :
    Calls Tryd.prog 59 #[TV x, .pointer (some ⟨b, 0, none⟩)] w fun e w' => e = .returned (.bool (x.id == s)) ∧ Below w.heap.size w w' := by
  have hk := keep_alloc hc
  go_enter Tryd.func59, Tryd.ntmps59
  go_wp2_with fail
  go_ret
  exact ⟨rfl, by go_grown⟩
theorem col1_any (x : Cb) (b : Nat) (s : ByteArray) (w : World) (hc : w.cell? ⟨b, 0, none⟩ = some (.string s)) :
    Calls Tryd.prog 62 #[CV x, .pointer (some ⟨b, 0, none⟩)] w fun e w' => e = .returned (.bool (eqS x.nm s)) ∧ Below w.heap.size w w' := by
  have hk := keep_alloc hc
  go_enter Tryd.func62, Tryd.ntmps62
  go_wp2_with fail
  go_ret
  exact ⟨rfl, by go_grown⟩
theorem key1_any (x : Cb) (b : Nat) (s : Int) (w : World) (hc : w.cell? ⟨b, 2, none⟩ = some (.int .i64 s)) :
    Calls Tryd.prog 63 #[CV x, .pointer (some ⟨b, 0, none⟩)] w fun e w' => e = .returned (.bool (x.id == s)) ∧ Below w.heap.size w w' := by
  have hk := keep_alloc hc
  go_enter Tryd.func63, Tryd.ntmps63
  go_wp2_with fail
  go_ret
  exact ⟨rfl, by go_grown⟩
theorem hasF1_any (x : Fb) (b : Nat) (s : ByteArray) (w : World) (hc : w.cell? ⟨b, 0, none⟩ = some (.string s)) :
    Calls Tryd.prog 100 #[FV x, .pointer (some ⟨b, 0, none⟩)] w fun e w' => e = .returned (.bool (eqS x.nm s)) ∧ Below w.heap.size w w' := by
  have hk := keep_alloc hc
  go_enter Tryd.func100, Tryd.ntmps100
  go_wp2_with fail
  go_ret
  exact ⟨rfl, by go_grown⟩
theorem entersFind : ∀ args w, (callFunc 58 args).run Tryd.prog w = .ok (.enter 58 args) w := Go.Proofs.enters_of Tryd.func58 (by kernel_rfl) rfl
theorem entersById : ∀ args w, (callFunc 59 args).run Tryd.prog w = .ok (.enter 59 args) w := Go.Proofs.enters_of Tryd.func59 (by kernel_rfl) rfl
theorem entersCol : ∀ args w, (callFunc 62 args).run Tryd.prog w = .ok (.enter 62 args) w := Go.Proofs.enters_of Tryd.func62 (by kernel_rfl) rfl
theorem entersKey : ∀ args w, (callFunc 63 args).run Tryd.prog w = .ok (.enter 63 args) w := Go.Proofs.enters_of Tryd.func63 (by kernel_rfl) rfl
theorem entersHasF : ∀ args w, (callFunc 100 args).run Tryd.prog w = .ok (.enter 100 args) w := Go.Proofs.enters_of Tryd.func100 (by kernel_rfl) rfl
theorem fstV_eq (o : Option Nat) : ∃ (i : Int) (b : Bool), fstV o = .tuple #[.int .i64 i, .bool b] := ⟨_, _, rfl⟩

set_option maxRecDepth 100000 in
theorem sfind_any (A : Option Addr) (cp : Nat) (l : List Tb) (s : ByteArray) (w : World) (hA : TabsAt w w.heap.size A l) (hl : l.length ≤ 1000000) :
    Calls Tryd.prog 17 #[.agg #[.slice A l.length cp], .string s] w fun e w' => e = .returned (fstV (l.findIdx? fun x => eqS x.nm s)) ∧ Below w.heap.size w w' := by
  have HA := Lib.hid hA; clear hA
  have hmf : ∀ (fn : Fn) (first cap : Array Value) (w : World), (Instr.makeFunc fn first cap).run Tryd.prog w = .ok (.func fn first cap) w := fun _ _ _ _ => rfl
  have hb2 := Lib.hid (below_two w (.cells #[.slice A l.length cp] 24) (.cells #[.string s] 9))
  have hc2 : Hid (((w.alloc (.cells #[.slice A l.length cp] 24)).alloc (.cells #[.string s] 9)).cell? ⟨w.heap.size + 1, 0, none⟩ = some (.string s)) := by show _ = _; simp
  go_enter Tryd.func17, Tryd.ntmps17
  go_wp2_with fail
  refine (firstT_any A cp l 58 #[.pointer (some ⟨w.heap.size + 1, 0, none⟩)] (fun x => eqS x.nm s) _ (HA.out.to hb2.out) hl entersFind (fun x _ w' hb' => find1_any x _ s w' ((hb'.cell (by simp)).trans hc2.out))).mono ?_
  rintro e w1 ⟨rfl, hb1⟩
  have Hb1 := Lib.hid (bthen hb2.out hb1); clear hb1
  obtain ⟨i, b, hfi⟩ := fstV_eq (l.findIdx? fun x => eqS x.nm s)
  have Hfi := Lib.hid hfi
  rw [hfi]; clear hfi
  go_wp2_with fail
  go_ret2
  exact ⟨by rw [Hfi.out]; rfl, Hb1.out⟩
set_option maxRecDepth 100000 in
theorem sbyId_any (A : Option Addr) (cp : Nat) (l : List Tb) (s : Int) (w : World) (hA : TabsAt w w.heap.size A l) (hl : l.length ≤ 1000000) :
    Calls Tryd.prog 18 #[.agg #[.slice A l.length cp], .int .i64 s] w fun e w' => e = .returned (fstV (l.findIdx? fun x => x.id == s)) ∧ Below w.heap.size w w' := by
  have HA := Lib.hid hA; clear hA
  have hmf : ∀ (fn : Fn) (first cap : Array Value) (w : World), (Instr.makeFunc fn first cap).run Tryd.prog w = .ok (.func fn first cap) w := fun _ _ _ _ => rfl
  have hb2 := Lib.hid (below_two w (.cells #[.slice A l.length cp] 24) (.cells #[.int .i64 s] 3))
  have hc2 : Hid (((w.alloc (.cells #[.slice A l.length cp] 24)).alloc (.cells #[.int .i64 s] 3)).cell? ⟨w.heap.size + 1, 0, none⟩ = some (.int .i64 s)) := by show _ = _; simp
  go_enter Tryd.func18, Tryd.ntmps18
  go_wp2_with fail
  refine (firstT_any A cp l 59 #[.pointer (some ⟨w.heap.size + 1, 0, none⟩)] (fun x => x.id == s) _ (HA.out.to hb2.out) hl entersById (fun x _ w' hb' => byId1_any x _ s w' ((hb'.cell (by simp)).trans hc2.out))).mono ?_
  rintro e w1 ⟨rfl, hb1⟩
  have Hb1 := Lib.hid (bthen hb2.out hb1); clear hb1
  obtain ⟨i, b, hfi⟩ := fstV_eq (l.findIdx? fun x => x.id == s)
  have Hfi := Lib.hid hfi
  rw [hfi]; clear hfi
  go_wp2_with fail
  go_ret2
  exact ⟨by rw [Hfi.out]; rfl, Hb1.out⟩
set_option maxRecDepth 100000 in
theorem scol_any (t : Tb) (s : ByteArray) (w : World) (hA : TabAt w w.heap.size t) (hl : t.cols.length ≤ 1000000) :
    Calls Tryd.prog 24 #[TV t, .string s] w fun e w' => e = .returned (fstV (colI t s)) ∧ Below w.heap.size w w' := by
  have HA := Lib.hid hA; clear hA
  have hmf : ∀ (fn : Fn) (first cap : Array Value) (w : World), (Instr.makeFunc fn first cap).run Tryd.prog w = .ok (.func fn first cap) w := fun _ _ _ _ => rfl
  have hb2 := Lib.hid (below_two w (.cells (fT t).toArray 29) (.cells #[.string s] 9))
  have hc2 : Hid (((w.alloc (.cells (fT t).toArray 29)).alloc (.cells #[.string s] 9)).cell? ⟨w.heap.size + 1, 0, none⟩ = some (.string s)) := by show _ = _; simp
  go_enter Tryd.func24, Tryd.ntmps24
  go_wp2_with fail
  refine (firstC_any t.A t.cap t.cols 62 #[.pointer (some ⟨w.heap.size + 1, 0, none⟩)] (fun x => eqS x.nm s) _ (RowAt.to HA.out hb2.out) hl entersCol (fun x _ w' hb' => col1_any x _ s w' ((hb'.cell (by simp)).trans hc2.out))).mono ?_
  rintro e w1 ⟨rfl, hb1⟩
  have Hb1 := Lib.hid (bthen hb2.out hb1); clear hb1
  obtain ⟨i, b, hfi⟩ := fstV_eq (t.cols.findIdx? fun x => eqS x.nm s)
  have Hfi := Lib.hid hfi
  rw [hfi]; clear hfi
  go_wp2_with fail
  go_ret2
  exact ⟨by unfold colI; rw [Hfi.out]; rfl, Hb1.out⟩
set_option maxRecDepth 100000 in
theorem skey_any (t : Tb) (w : World) (hA : TabAt w w.heap.size t) (hl : t.cols.length ≤ 1000000) :
    Calls Tryd.prog 25 #[TV t] w fun e w' => e = .returned (fstV (t.cols.findIdx? fun c => c.id == t.key)) ∧ Below w.heap.size w w' := by
  have HA := Lib.hid hA; clear hA
  have hmf : ∀ (fn : Fn) (first cap : Array Value) (w : World), (Instr.makeFunc fn first cap).run Tryd.prog w = .ok (.func fn first cap) w := fun _ _ _ _ => rfl
  have hb2 := Lib.hid (below_one w (.cells (fT t).toArray 29))
  have hc2 : Hid ((w.alloc (.cells (fT t).toArray 29)).cell? ⟨w.heap.size, 2, none⟩ = some (.int .i64 t.key)) := (BlkN.new w _ (fT t) _ rfl).tab.2.2.1
  go_enter Tryd.func25, Tryd.ntmps25
  go_wp2_with fail
  refine (firstC_any t.A t.cap t.cols 63 #[.pointer (some ⟨w.heap.size, 0, none⟩)] (fun x => x.id == t.key) _ (RowAt.to HA.out hb2.out) hl entersKey (fun x _ w' hb' => key1_any x _ t.key w' ((hb'.cell (by simp)).trans hc2.out))).mono ?_
  rintro e w1 ⟨rfl, hb1⟩
  have Hb1 := Lib.hid (bthen hb2.out hb1); clear hb1
  obtain ⟨i, b, hfi⟩ := fstV_eq (t.cols.findIdx? fun x => x.id == t.key)
  have Hfi := Lib.hid hfi
  rw [hfi]; clear hfi
  go_wp2_with fail
  go_ret2
  exact ⟨by rw [Hfi.out]; rfl, Hb1.out⟩
set_option maxRecDepth 100000 in
theorem hasF_any (A : Option Addr) (cp : Nat) (l : List Fb) (s : ByteArray) (w : World) (hA : FldsAt w w.heap.size A l) (hl : l.length ≤ 1000000) :
    Calls Tryd.prog 87 #[.slice A l.length cp, .string s] w fun e w' => e = .returned (.bool (l.findIdx? fun g => eqS g.nm s).isSome) ∧ Below w.heap.size w w' := by
  have HA := Lib.hid hA; clear hA
  have hmf : ∀ (fn : Fn) (first cap : Array Value) (w : World), (Instr.makeFunc fn first cap).run Tryd.prog w = .ok (.func fn first cap) w := fun _ _ _ _ => rfl
  have hb2 := Lib.hid (below_one w (.cells #[.string s] 9))
  have hc2 : Hid ((w.alloc (.cells #[.string s] 9)).cell? ⟨w.heap.size, 0, none⟩ = some (.string s)) := by show _ = _; simp
  go_enter Tryd.func87, Tryd.ntmps87
  go_wp2_with fail
  refine (firstF_any A cp l 100 #[.pointer (some ⟨w.heap.size, 0, none⟩)] (fun x => eqS x.nm s) _ (RowAt.to HA.out hb2.out) hl entersHasF (fun x _ w' hb' => hasF1_any x _ s w' ((hb'.cell (by simp)).trans hc2.out))).mono ?_
  rintro e w1 ⟨rfl, hb1⟩
  have Hb1 := Lib.hid (bthen hb2.out hb1); clear hb1
  obtain ⟨i, b, hfi, hbb⟩ : ∃ (i : Int) (b : Bool), fstV (l.findIdx? fun x => eqS x.nm s) = .tuple #[.int .i64 i, .bool b] ∧ (l.findIdx? fun x => eqS x.nm s).isSome = b := ⟨_, _, rfl, rfl⟩
  have Hbb := Lib.hid hbb; clear hbb
  rw [hfi]; clear hfi
  go_wp2_with fail
  go_ret
  exact ⟨by rw [Hbb.out]; rfl, Hb1.out⟩
end Go.Proofs.YtmcgcanpaffggaaDoor

/-
  Contracts of package schema's generic 'all' and of the function literal of 'distinct', at tables and columns.
-/
namespace Go.Proofs.YtmcgcanpaffggaaDoor
open Go.RowKit

theorem idT_any (x : Tb) (w : World) : Calls Tryd.prog 55 #[TV x] w fun e w' => e = .returned (.int .i64 x.id) ∧ Below w.heap.size w w' := by
  go_enter Tryd.func55, Tryd.ntmps55
  go_wp2_with fail
  go_ret
  exact ⟨rfl, by go_grown⟩
theorem nmT_any (x : Tb) (w : World) : Calls Tryd.prog 56 #[TV x] w fun e w' => e = .returned (.string x.nm) ∧ Below w.heap.size w w' := by
  go_enter Tryd.func56, Tryd.ntmps56
  go_wp2_with fail
  go_ret
  exact ⟨rfl, by go_grown⟩
theorem all1T_any (x : Tb) (b F : Nat) (caps : Array Value) (r : Bool) (w : World) (hc : w.cell? ⟨b, 0, none⟩ = some (.func (.func F) #[] caps))
    (hF : ∀ args w, (callFunc F args).run Tryd.prog w = .ok (.enter F args) w)
    (hcall : ∀ w', Below w.heap.size w w' → Calls Tryd.prog F (#[TV x] ++ caps) w' fun e w2 => e = .returned (.bool r) ∧ Below w'.heap.size w' w2) :
    Calls Tryd.prog 84 #[TV x, .pointer (some ⟨b, 0, none⟩)] w fun e w' => e = .returned (.bool !r) ∧ Below w.heap.size w w' := by
  have hk := keep_alloc hc
  have HC := Lib.hid hcall; clear hcall
  have hb0 := Lib.hid (below_one w (.cells (fT x).toArray 29))
  go_enter Tryd.func84, Tryd.ntmps84
  go_wp2_with fail
  refine (HC.out _ hb0.out).mono ?_
  rintro e w1 ⟨rfl, hb1⟩
  have Hb1 := Lib.hid (bthen hb0.out hb1); clear hb1
  go_wp2_with fail
  go_ret
  exact ⟨rfl, Hb1.out⟩
theorem entersAllT : ∀ args w, (callFunc 84 args).run Tryd.prog w = .ok (.enter 84 args) w := Go.Proofs.enters_of Tryd.func84 (by kernel_rfl) rfl
set_option maxRecDepth 100000 in
theorem allT_any (A : Option Addr) (cp : Nat) (l : List Tb) (F : Nat) (caps : Array Value) (p : Tb → Bool) (w : World) (hA : TabsAt w w.heap.size A l) (hl : l.length ≤ 1000000)
    (hF : ∀ args w, (callFunc F args).run Tryd.prog w = .ok (.enter F args) w)
    (hcall : ∀ x ∈ l, ∀ w', Below w.heap.size w w' → Calls Tryd.prog F (#[TV x] ++ caps) w' fun e w2 => e = .returned (.bool (p x)) ∧ Below w'.heap.size w' w2) :
    Calls Tryd.prog 53 #[.slice A l.length cp, .func (.func F) #[] caps] w fun e w' => e = .returned (.bool (l.all p)) ∧ Below w.heap.size w w' := by
  have HA := Lib.hid hA; clear hA
  have HC := Lib.hid hcall; clear hcall
  have hmf : ∀ (fn : Fn) (first cap : Array Value) (w : World), (Instr.makeFunc fn first cap).run Tryd.prog w = .ok (.func fn first cap) w := fun _ _ _ _ => rfl
  have hb0 := Lib.hid (below_one w (.cells #[.func (.func F) #[] caps] 30))
  have hc0 : Hid ((w.alloc (.cells #[.func (.func F) #[] caps] 30)).cell? ⟨w.heap.size, 0, none⟩ = some (.func (.func F) #[] caps)) := by show _ = _; simp
  go_enter Tryd.func53, Tryd.ntmps53
  go_wp2_with fail
  refine (firstT_any A cp l 84 #[.pointer (some ⟨w.heap.size, 0, none⟩)] (fun x => !p x) _ (HA.out.to hb0.out) hl entersAllT
    (fun x hx w' hb' => all1T_any x _ F caps (p x) w' ((hb'.cell (by simp)).trans hc0.out) hF (fun w2 hb2 => HC.out x hx w2 (bthen (bthen hb0.out hb') hb2)))).mono ?_
  rintro e w1 ⟨rfl, hb1⟩
  have Hb1 := Lib.hid (bthen hb0.out hb1); clear hb1
  have Haf := Lib.hid (all_find p l)
  obtain ⟨i, b, hfi, hbb⟩ : ∃ (i : Int) (b : Bool), fstV (l.findIdx? fun x => !p x) = .tuple #[.int .i64 i, .bool b] ∧ (l.findIdx? fun x => !p x).isSome = b := ⟨_, _, rfl, rfl⟩
  have Hbb : Hid (l.all p = !b) := by show _ = _; rw [← hbb, Haf.out]; simp
  rw [hfi]; clear hfi hbb
  go_wp2_with fail
  go_ret
  exact ⟨by rw [Hbb.out]; rfl, Hb1.out⟩
set_option maxRecDepth 100000 in
theorem dist1T_any (y x : Tb) (b b2 : Nat) (w : World) (hc : w.cell? ⟨b, 0, none⟩ = some (.func (.func 56) #[] #[])) (hx : BlkN w b2 (fT x)) :
    Calls Tryd.prog 85 #[TV y, .pointer (some ⟨b, 0, none⟩), .pointer (some ⟨b2, 0, none⟩)] w fun e w' => e = .returned (.bool (eqS y.nm x.nm)) ∧ Below w.heap.size w w' := by
  have hb0 := Lib.hid (below_one w (.cells (fT y).toArray 29))
  have hb2 : b2 < w.heap.size := World.block_lt_of_cell? w ⟨b2, 0, none⟩ (hx 0 _ rfl)
  have hb1 : b < w.heap.size := World.block_lt_of_cell? w ⟨b, 0, none⟩ hc
  have HX := Lib.hid (hx.alloc hb2 (.cells (fT y).toArray 29))
  have HY := Lib.hid (BlkN.new w _ (fT y) 29 rfl)
  have HN := Lib.hid (keep_alloc hc (.cells (fT y).toArray 29))
  clear hc hx
  have HC := Lib.hid (fun w => nmT_any y w)
  have HD := Lib.hid (fun w => nmT_any x w)
  obtain ⟨w0, hw0⟩ : ∃ w0, w0 = w.alloc (.cells (fT y).toArray 29) := ⟨_, rfl⟩
  have Hw0 : Hid (w.alloc (.cells #[.int .i64 y.id, .string y.nm, .int .i64 y.key, .int .i64 y.nx, .slice y.A y.cols.length y.cap] 29) = w0) := hw0.symm
  have hs0 : w0.heap.size = w.heap.size + 1 := by rw [hw0]; simp
  rw [← hw0] at HX HY HN hb0
  have hne : Nonempty (BelowBy w0.heap.size w0) := ⟨⟨w0, Below.refl _ _⟩⟩
  have N0 : ∀ p : BelowBy w0.heap.size w0, p.x.cell? ⟨b, 0, none⟩ = some (.func (.func 56) #[] #[]) := fun p => (p.h.cell (by simp; omega)).trans HN.out
  have X0 : ∀ p : BelowBy w0.heap.size w0, p.x.cell? ⟨b2, 0, none⟩ = some (.int .i64 x.id) := fun p => (p.h.cell (by simp; omega)).trans (HX.out 0 _ rfl)
  have X1 : ∀ p : BelowBy w0.heap.size w0, p.x.cell? ⟨b2, 1, none⟩ = some (.string x.nm) := fun p => (p.h.cell (by simp; omega)).trans (HX.out 1 _ rfl)
  have X2 : ∀ p : BelowBy w0.heap.size w0, p.x.cell? ⟨b2, 2, none⟩ = some (.int .i64 x.key) := fun p => (p.h.cell (by simp; omega)).trans (HX.out 2 _ rfl)
  have X3 : ∀ p : BelowBy w0.heap.size w0, p.x.cell? ⟨b2, 3, none⟩ = some (.int .i64 x.nx) := fun p => (p.h.cell (by simp; omega)).trans (HX.out 3 _ rfl)
  have X4 : ∀ p : BelowBy w0.heap.size w0, p.x.cell? ⟨b2, 4, none⟩ = some (.slice x.A x.cols.length x.cap) := fun p => (p.h.cell (by simp; omega)).trans (HX.out 4 _ rfl)
  have Y0 : ∀ p : BelowBy w0.heap.size w0, p.x.cell? ⟨w.heap.size, 0, none⟩ = some (.int .i64 y.id) := fun p => (p.h.cell (by simp; omega)).trans (HY.out 0 _ rfl)
  have Y1 : ∀ p : BelowBy w0.heap.size w0, p.x.cell? ⟨w.heap.size, 1, none⟩ = some (.string y.nm) := fun p => (p.h.cell (by simp; omega)).trans (HY.out 1 _ rfl)
  have Y2 : ∀ p : BelowBy w0.heap.size w0, p.x.cell? ⟨w.heap.size, 2, none⟩ = some (.int .i64 y.key) := fun p => (p.h.cell (by simp; omega)).trans (HY.out 2 _ rfl)
  have Y3 : ∀ p : BelowBy w0.heap.size w0, p.x.cell? ⟨w.heap.size, 3, none⟩ = some (.int .i64 y.nx) := fun p => (p.h.cell (by simp; omega)).trans (HY.out 3 _ rfl)
  have Y4 : ∀ p : BelowBy w0.heap.size w0, p.x.cell? ⟨w.heap.size, 4, none⟩ = some (.slice y.A y.cols.length y.cap) := fun p => (p.h.cell (by simp; omega)).trans (HY.out 4 _ rfl)
  clear hw0 hs0
  go_enter Tryd.func85, Tryd.ntmps85
  go_wp2_with fail
  rw [Hw0.out]
  refine wp_region_below w0.heap.size (by kernel_rfl) (by kernel_rfl) ?_
  repeat (
    with_reducible refine wpQuiet_step (fun K hK => ?_)
    go_simp
    refine hK _ ?_
    clear hK K)
  with_reducible refine wpQuiet_step (fun K hK => ?_)
  go_simp
  apply Exists.intro
  refine ⟨fun p => ?_, hK _ ?_⟩
  exact (HC.out _).mono fun e w5 ⟨he, hb⟩ => ⟨he, p.step (Nat.le_refl _) hb⟩
  clear hK K
  repeat (
    with_reducible refine wpQuiet_step (fun K hK => ?_)
    go_simp
    refine hK _ ?_
    clear hK K)
  with_reducible refine wpQuiet_step (fun K hK => ?_)
  go_simp
  apply Exists.intro
  refine ⟨fun p => ?_, hK _ ?_⟩
  exact (HD.out _).mono fun e w5 ⟨he, hb⟩ => ⟨he, p.step (Nat.le_refl _) hb⟩
  clear hK K
  repeat (
    with_reducible refine wpQuiet_step (fun K hK => ?_)
    go_simp
    refine hK _ ?_
    clear hK K)
  refine wpQuiet_nil ?_
  rintro _ ⟨p, rfl⟩
  go_wp2_with fail
  go_ret
  exact ⟨rfl, bthen hb0.out p.h⟩

theorem idC_any (x : Cb) (w : World) : Calls Tryd.prog 76 #[CV x] w fun e w' => e = .returned (.int .i64 x.id) ∧ Below w.heap.size w w' := by
  go_enter Tryd.func76, Tryd.ntmps76
  go_wp2_with fail
  go_ret
  exact ⟨rfl, by go_grown⟩
theorem nmC_any (x : Cb) (w : World) : Calls Tryd.prog 77 #[CV x] w fun e w' => e = .returned (.string x.nm) ∧ Below w.heap.size w w' := by
  go_enter Tryd.func77, Tryd.ntmps77
  go_wp2_with fail
  go_ret
  exact ⟨rfl, by go_grown⟩
theorem all1C_any (x : Cb) (b F : Nat) (caps : Array Value) (r : Bool) (w : World) (hc : w.cell? ⟨b, 0, none⟩ = some (.func (.func F) #[] caps))
    (hF : ∀ args w, (callFunc F args).run Tryd.prog w = .ok (.enter F args) w)
    (hcall : ∀ w', Below w.heap.size w w' → Calls Tryd.prog F (#[CV x] ++ caps) w' fun e w2 => e = .returned (.bool r) ∧ Below w'.heap.size w' w2) :
    Calls Tryd.prog 90 #[CV x, .pointer (some ⟨b, 0, none⟩)] w fun e w' => e = .returned (.bool !r) ∧ Below w.heap.size w w' := by
  have hk := keep_alloc hc
  have HC := Lib.hid hcall; clear hcall
  have hb0 := Lib.hid (below_one w (.cells (fC x).toArray 37))
  go_enter Tryd.func90, Tryd.ntmps90
  go_wp2_with fail
  refine (HC.out _ hb0.out).mono ?_
  rintro e w1 ⟨rfl, hb1⟩
  have Hb1 := Lib.hid (bthen hb0.out hb1); clear hb1
  go_wp2_with fail
  go_ret
  exact ⟨rfl, Hb1.out⟩
theorem entersAllC : ∀ args w, (callFunc 90 args).run Tryd.prog w = .ok (.enter 90 args) w := Go.Proofs.enters_of Tryd.func90 (by kernel_rfl) rfl
set_option maxRecDepth 100000 in
theorem allC_any (A : Option Addr) (cp : Nat) (l : List Cb) (F : Nat) (caps : Array Value) (p : Cb → Bool) (w : World) (hA : ColsAt w w.heap.size A l) (hl : l.length ≤ 1000000)
    (hF : ∀ args w, (callFunc F args).run Tryd.prog w = .ok (.enter F args) w)
    (hcall : ∀ x ∈ l, ∀ w', Below w.heap.size w w' → Calls Tryd.prog F (#[CV x] ++ caps) w' fun e w2 => e = .returned (.bool (p x)) ∧ Below w'.heap.size w' w2) :
    Calls Tryd.prog 73 #[.slice A l.length cp, .func (.func F) #[] caps] w fun e w' => e = .returned (.bool (l.all p)) ∧ Below w.heap.size w w' := by
  have HA := Lib.hid hA; clear hA
  have HC := Lib.hid hcall; clear hcall
  have hmf : ∀ (fn : Fn) (first cap : Array Value) (w : World), (Instr.makeFunc fn first cap).run Tryd.prog w = .ok (.func fn first cap) w := fun _ _ _ _ => rfl
  have hb0 := Lib.hid (below_one w (.cells #[.func (.func F) #[] caps] 31))
  have hc0 : Hid ((w.alloc (.cells #[.func (.func F) #[] caps] 31)).cell? ⟨w.heap.size, 0, none⟩ = some (.func (.func F) #[] caps)) := by show _ = _; simp
  go_enter Tryd.func73, Tryd.ntmps73
  go_wp2_with fail
  refine (firstC_any A cp l 90 #[.pointer (some ⟨w.heap.size, 0, none⟩)] (fun x => !p x) _ (RowAt.to HA.out hb0.out) hl entersAllC
    (fun x hx w' hb' => all1C_any x _ F caps (p x) w' ((hb'.cell (by simp)).trans hc0.out) hF (fun w2 hb2 => HC.out x hx w2 (bthen (bthen hb0.out hb') hb2)))).mono ?_
  rintro e w1 ⟨rfl, hb1⟩
  have Hb1 := Lib.hid (bthen hb0.out hb1); clear hb1
  have Haf := Lib.hid (all_find p l)
  obtain ⟨i, b, hfi, hbb⟩ : ∃ (i : Int) (b : Bool), fstV (l.findIdx? fun x => !p x) = .tuple #[.int .i64 i, .bool b] ∧ (l.findIdx? fun x => !p x).isSome = b := ⟨_, _, rfl, rfl⟩
  have Hbb : Hid (l.all p = !b) := by show _ = _; rw [← hbb, Haf.out]; simp
  rw [hfi]; clear hfi hbb
  go_wp2_with fail
  go_ret
  exact ⟨by rw [Hbb.out]; rfl, Hb1.out⟩
set_option maxRecDepth 100000 in
theorem dist1C_any (y x : Cb) (b b2 : Nat) (w : World) (hc : w.cell? ⟨b, 0, none⟩ = some (.func (.func 77) #[] #[])) (hx : BlkN w b2 (fC x)) :
    Calls Tryd.prog 91 #[CV y, .pointer (some ⟨b, 0, none⟩), .pointer (some ⟨b2, 0, none⟩)] w fun e w' => e = .returned (.bool (eqS y.nm x.nm)) ∧ Below w.heap.size w w' := by
  have hb0 := Lib.hid (below_one w (.cells (fC y).toArray 37))
  have hb2 : b2 < w.heap.size := World.block_lt_of_cell? w ⟨b2, 0, none⟩ (hx 0 _ rfl)
  have hb1 : b < w.heap.size := World.block_lt_of_cell? w ⟨b, 0, none⟩ hc
  have HX := Lib.hid (hx.alloc hb2 (.cells (fC y).toArray 37))
  have HY := Lib.hid (BlkN.new w _ (fC y) 37 rfl)
  have HN := Lib.hid (keep_alloc hc (.cells (fC y).toArray 37))
  clear hc hx
  have HC := Lib.hid (fun w => nmC_any y w)
  have HD := Lib.hid (fun w => nmC_any x w)
  obtain ⟨w0, hw0⟩ : ∃ w0, w0 = w.alloc (.cells (fC y).toArray 37) := ⟨_, rfl⟩
  have Hw0 : Hid (w.alloc (.cells #[.int .i64 y.id, .string y.nm, .int .i64 y.tk, .int .i64 y.tm, .bool y.nl, .int .i64 y.dk, .int .i64 y.dn, .string y.ds] 37) = w0) := hw0.symm
  have hs0 : w0.heap.size = w.heap.size + 1 := by rw [hw0]; simp
  rw [← hw0] at HX HY HN hb0
  have hne : Nonempty (BelowBy w0.heap.size w0) := ⟨⟨w0, Below.refl _ _⟩⟩
  have N0 : ∀ p : BelowBy w0.heap.size w0, p.x.cell? ⟨b, 0, none⟩ = some (.func (.func 77) #[] #[]) := fun p => (p.h.cell (by simp; omega)).trans HN.out
  have X0 : ∀ p : BelowBy w0.heap.size w0, p.x.cell? ⟨b2, 0, none⟩ = some (.int .i64 x.id) := fun p => (p.h.cell (by simp; omega)).trans (HX.out 0 _ rfl)
  have X1 : ∀ p : BelowBy w0.heap.size w0, p.x.cell? ⟨b2, 1, none⟩ = some (.string x.nm) := fun p => (p.h.cell (by simp; omega)).trans (HX.out 1 _ rfl)
  have X2 : ∀ p : BelowBy w0.heap.size w0, p.x.cell? ⟨b2, 2, none⟩ = some (.int .i64 x.tk) := fun p => (p.h.cell (by simp; omega)).trans (HX.out 2 _ rfl)
  have X3 : ∀ p : BelowBy w0.heap.size w0, p.x.cell? ⟨b2, 3, none⟩ = some (.int .i64 x.tm) := fun p => (p.h.cell (by simp; omega)).trans (HX.out 3 _ rfl)
  have X4 : ∀ p : BelowBy w0.heap.size w0, p.x.cell? ⟨b2, 4, none⟩ = some (.bool x.nl) := fun p => (p.h.cell (by simp; omega)).trans (HX.out 4 _ rfl)
  have X5 : ∀ p : BelowBy w0.heap.size w0, p.x.cell? ⟨b2, 5, none⟩ = some (.int .i64 x.dk) := fun p => (p.h.cell (by simp; omega)).trans (HX.out 5 _ rfl)
  have X6 : ∀ p : BelowBy w0.heap.size w0, p.x.cell? ⟨b2, 6, none⟩ = some (.int .i64 x.dn) := fun p => (p.h.cell (by simp; omega)).trans (HX.out 6 _ rfl)
  have X7 : ∀ p : BelowBy w0.heap.size w0, p.x.cell? ⟨b2, 7, none⟩ = some (.string x.ds) := fun p => (p.h.cell (by simp; omega)).trans (HX.out 7 _ rfl)
  have Y0 : ∀ p : BelowBy w0.heap.size w0, p.x.cell? ⟨w.heap.size, 0, none⟩ = some (.int .i64 y.id) := fun p => (p.h.cell (by simp; omega)).trans (HY.out 0 _ rfl)
  have Y1 : ∀ p : BelowBy w0.heap.size w0, p.x.cell? ⟨w.heap.size, 1, none⟩ = some (.string y.nm) := fun p => (p.h.cell (by simp; omega)).trans (HY.out 1 _ rfl)
  have Y2 : ∀ p : BelowBy w0.heap.size w0, p.x.cell? ⟨w.heap.size, 2, none⟩ = some (.int .i64 y.tk) := fun p => (p.h.cell (by simp; omega)).trans (HY.out 2 _ rfl)
  have Y3 : ∀ p : BelowBy w0.heap.size w0, p.x.cell? ⟨w.heap.size, 3, none⟩ = some (.int .i64 y.tm) := fun p => (p.h.cell (by simp; omega)).trans (HY.out 3 _ rfl)
  have Y4 : ∀ p : BelowBy w0.heap.size w0, p.x.cell? ⟨w.heap.size, 4, none⟩ = some (.bool y.nl) := fun p => (p.h.cell (by simp; omega)).trans (HY.out 4 _ rfl)
  have Y5 : ∀ p : BelowBy w0.heap.size w0, p.x.cell? ⟨w.heap.size, 5, none⟩ = some (.int .i64 y.dk) := fun p => (p.h.cell (by simp; omega)).trans (HY.out 5 _ rfl)
  have Y6 : ∀ p : BelowBy w0.heap.size w0, p.x.cell? ⟨w.heap.size, 6, none⟩ = some (.int .i64 y.dn) := fun p => (p.h.cell (by simp; omega)).trans (HY.out 6 _ rfl)
  have Y7 : ∀ p : BelowBy w0.heap.size w0, p.x.cell? ⟨w.heap.size, 7, none⟩ = some (.string y.ds) := fun p => (p.h.cell (by simp; omega)).trans (HY.out 7 _ rfl)
  clear hw0 hs0
  go_enter Tryd.func91, Tryd.ntmps91
  go_wp2_with fail
  rw [Hw0.out]
  refine wp_region_below w0.heap.size (by kernel_rfl) (by kernel_rfl) ?_
  repeat (
    with_reducible refine wpQuiet_step (fun K hK => ?_)
    go_simp
    refine hK _ ?_
    clear hK K)
  with_reducible refine wpQuiet_step (fun K hK => ?_)
  go_simp
  apply Exists.intro
  refine ⟨fun p => ?_, hK _ ?_⟩
  exact (HC.out _).mono fun e w5 ⟨he, hb⟩ => ⟨he, p.step (Nat.le_refl _) hb⟩
  clear hK K
  repeat (
    with_reducible refine wpQuiet_step (fun K hK => ?_)
    go_simp
    refine hK _ ?_
    clear hK K)
  with_reducible refine wpQuiet_step (fun K hK => ?_)
  go_simp
  apply Exists.intro
  refine ⟨fun p => ?_, hK _ ?_⟩
  exact (HD.out _).mono fun e w5 ⟨he, hb⟩ => ⟨he, p.step (Nat.le_refl _) hb⟩
  clear hK K
  repeat (
    with_reducible refine wpQuiet_step (fun K hK => ?_)
    go_simp
    refine hK _ ?_
    clear hK K)
  refine wpQuiet_nil ?_
  rintro _ ⟨p, rfl⟩
  go_wp2_with fail
  go_ret
  exact ⟨rfl, bthen hb0.out p.h⟩

end Go.Proofs.YtmcgcanpaffggaaDoor

/-
  Contract of package schema's generic 'distinct', at tables and columns.
-/
namespace Go.Proofs.YtmcgcanpaffggaaDoor
open Go.RowKit

theorem dist_more {α : Type} {idf : α → Int} {nmf : α → ByteArray} {l : List α} {k : Nat} {x : α} (h : ∀ j, j < k → OkAt idf nmf l j) (hx : l[k]? = some x) (h1 : ∀ y, 0 < k → l[k - 1]? = some y → idf y < idf x)
    (h2 : ((l.take k).findIdx? fun y => eqS (nmf y) (nmf x)) = none) : ∀ j, j < k + 1 → OkAt idf nmf l j := fun j hj => by
  by_cases e : j = k
  · subst e
    intro z hz
    rw [hx] at hz; cases hz
    refine ⟨h1, fun i y hi hy e => ?_⟩
    rw [List.findIdx?_eq_none_iff] at h2
    have := h2 y (List.mem_of_getElem? (i := i) (by rw [List.getElem?_take]; simp [hi, hy]))
    rw [eqS_iff.2 e] at this; cases this
  · exact h j (by omega)
theorem dist_name {α : Type} {idf : α → Int} {nmf : α → ByteArray} {l : List α} {k q : Nat} {x : α} (hx : l[k]? = some x) (h2 : ((l.take k).findIdx? fun y => eqS (nmf y) (nmf x)) = some q) : ¬ Dist idf nmf l := fun h => by
  obtain ⟨y, h3, h4, _⟩ := find_some h2
  rw [List.getElem?_take] at h3
  split at h3
  · exact (h k (List.getElem?_eq_some_iff.1 hx).1 x hx).2 q y (by assumption) h3 (eqS_iff.1 h4)
  · cases h3
theorem dist_id {α : Type} {idf : α → Int} {nmf : α → ByteArray} {l : List α} {j : Nat} {x y : α} (hx : l[j + 1]? = some x) (hy : l[j]? = some y) (h2 : idf x ≤ idf y) : ¬ Dist idf nmf l := fun h => by
  have := (h (j + 1) (List.getElem?_eq_some_iff.1 hx).1 x hx).1 y (by omega) (by simpa using hy)
  omega
theorem entersDistT : ∀ args w, (callFunc 85 args).run Tryd.prog w = .ok (.enter 85 args) w := Go.Proofs.enters_of Tryd.func85 (by kernel_rfl) rfl
set_option maxRecDepth 100000 in
set_option maxHeartbeats 1600000 in
theorem distT_any (A : Option Addr) (cp : Nat) (l : List Tb) (w : World) (hA : TabsAt w w.heap.size A l) (hl : l.length ≤ 1000000) (hcp : l.length ≤ cp) :
    Calls Tryd.prog 54 #[.slice A l.length cp, .func (.func 55) #[] #[], .func (.func 56) #[] #[]] w fun e w' => e = .returned (.bool (tf (Dist Tb.id Tb.nm l))) ∧ Below w.heap.size w w' := by
  have HA := Lib.hid hA; clear hA
  have hmf : ∀ (fn : Fn) (first cap : Array Value) (w : World), (Instr.makeFunc fn first cap).run Tryd.prog w = .ok (.func fn first cap) w := fun _ _ _ _ => rfl
  have hb0 := Lib.hid (below_one w (.cells #[.func (.func 56) #[] #[]] 82))
  have hc0 : Hid ((w.alloc (.cells #[.func (.func 56) #[] #[]] 82)).cell? ⟨w.heap.size, 0, none⟩ = some (.func (.func 56) #[] #[])) := by show _ = _; simp
  have hs0 : Hid ((w.alloc (.cells #[.func (.func 56) #[] #[]] 82)).heap.size = w.heap.size + 1) := by show _ = _; simp
  go_enter Tryd.func54, Tryd.ntmps54
  go_wp2_with fail
  obtain ⟨w0, hw0⟩ : ∃ w0, w.alloc (.cells #[.func (.func 56) #[] #[]] 82) = w0 := ⟨_, rfl⟩
  rw [hw0] at hb0 hc0 hs0 ⊢
  clear hw0
  go_loopw [14] (fun i wr => ∃ k : Nat, k ≤ l.length ∧ i = .int .i64 k ∧ Hid (∀ j, j < k → OkAt Tb.id Tb.nm l j) ∧ Hid (Below w0.heap.size w0 wr)) (fun i _ => l.length - (intOf i).toNat)
  case atStart => exact ⟨0, by omega, rfl, fun j h => absurd h (by omega), Below.refl _ _⟩
  case round =>
    obtain ⟨k, hk, rfl, hall, hb⟩ := hrel
    have Hbw := Lib.hid (bthen hb0.out hb.out)
    have Hsz2 := Lib.hid hb.out.size
    by_cases hlt : k < l.length
    · obtain ⟨x, hx⟩ : ∃ x, l[k]? = some x := ⟨l[k], by simp [hlt]⟩
      have Hx := Lib.hid hx
      obtain ⟨b, off, rfl, hbB, c0, c1, c2, c3, c4⟩ := (HA.out.below Hbw.out).get k x hx
      clear hx
      obtain ⟨w1, hw1⟩ : ∃ w1, wr.alloc (.cells (fT x).toArray 29) = w1 := ⟨_, rfl⟩
      have Hw1 : Hid (wr.alloc (.cells #[.int .i64 x.id, .string x.nm, .int .i64 x.key, .int .i64 x.nx, .slice x.A x.cols.length x.cap] 29) = w1) := hw1
      have Hb1' : Hid (Below wr.heap.size wr w1) := by show Below _ _ _; rw [← hw1]; exact below_one wr _
      have Hb1 := Lib.hid (bthen Hbw.out Hb1'.out)
      have HX : Hid (BlkN w1 wr.heap.size (fT x)) := by show BlkN _ _ _; rw [← hw1]; exact BlkN.new wr _ (fT x) _ rfl
      have Hs1 : Hid (w1.heap.size = wr.heap.size + 1) := by show _ = _; rw [← hw1]; simp
      have HN1 : Hid (w1.cell? ⟨w.heap.size, 0, none⟩ = some (.func (.func 56) #[] #[])) := (Hb1'.out.cell (show w.heap.size < wr.heap.size by have := hs0.out; have := Hsz2.out; omega)).trans ((hb.out.cell (show w.heap.size < w0.heap.size by have := hs0.out; omega)).trans hc0.out)
      clear hw1
      have hlk : (l.take k).length = k := by rw [List.length_take]; omega
      have HF1 : Hid (∀ w', Below w1.heap.size w1 w' → Calls Tryd.prog 57 #[.slice (some ⟨b, off, none⟩) k cp, .func (.func 85) #[] #[.pointer (some ⟨w.heap.size, 0, none⟩), .pointer (some ⟨wr.heap.size, 0, none⟩)]] w' fun e w2 => e = .returned (fstV ((l.take k).findIdx? fun y => eqS y.nm x.nm)) ∧ Below w'.heap.size w' w2) := fun w' hb' => by
        have := firstT_any (some ⟨b, off, none⟩) cp (l.take k) 85 #[.pointer (some ⟨w.heap.size, 0, none⟩), .pointer (some ⟨wr.heap.size, 0, none⟩)] (fun y => eqS y.nm x.nm) w' (((HA.out.to (bthen Hb1.out hb')).take k)) (by omega) entersDistT (fun y _ w2 hb2 =>
          dist1T_any y x _ _ w2 (((bthen hb' hb2).cell (show w.heap.size < w1.heap.size by have := hs0.out; have := Hsz2.out; have := Hs1.out; omega)).trans HN1.out) (HX.out.below (bthen hb' hb2) (by have := Hs1.out; omega)))
        rwa [hlk] at this
      clear hlk
      have hne : Nonempty (BelowBy w1.heap.size w1) := ⟨⟨w1, Below.refl _ _⟩⟩
      have X0 : ∀ p : BelowBy w1.heap.size w1, p.x.cell? ⟨wr.heap.size, 0, none⟩ = some (.int .i64 x.id) := fun p => (p.h.cell (by have := Hs1.out; simp; omega)).trans (HX.out 0 _ rfl)
      have X1 : ∀ p : BelowBy w1.heap.size w1, p.x.cell? ⟨wr.heap.size, 1, none⟩ = some (.string x.nm) := fun p => (p.h.cell (by have := Hs1.out; simp; omega)).trans (HX.out 1 _ rfl)
      have X2 : ∀ p : BelowBy w1.heap.size w1, p.x.cell? ⟨wr.heap.size, 2, none⟩ = some (.int .i64 x.key) := fun p => (p.h.cell (by have := Hs1.out; simp; omega)).trans (HX.out 2 _ rfl)
      have X3 : ∀ p : BelowBy w1.heap.size w1, p.x.cell? ⟨wr.heap.size, 3, none⟩ = some (.int .i64 x.nx) := fun p => (p.h.cell (by have := Hs1.out; simp; omega)).trans (HX.out 3 _ rfl)
      have X4 : ∀ p : BelowBy w1.heap.size w1, p.x.cell? ⟨wr.heap.size, 4, none⟩ = some (.slice x.A x.cols.length x.cap) := fun p => (p.h.cell (by have := Hs1.out; simp; omega)).trans (HX.out 4 _ rfl)
      by_cases hk0 : k = 0
      · subst hk0
        simp only [Nat.zero_mul, Nat.add_zero] at c0 c1 c2 c3 c4
        cases ho : (l.take 0).findIdx? fun y => eqS y.nm x.nm with
        | none =>
          have Ho : Hid (fstV ((l.take 0).findIdx? fun y => eqS y.nm x.nm) = .tuple #[.int .i64 0, .bool false]) := by show _ = _; rw [ho]; rfl
          have Hall : Hid (∀ i, i < 0 + 1 → OkAt Tb.id Tb.nm l i) := dist_more hall.out Hx.out (fun y h _ => absurd h (by omega)) ho
          clear ho
          go_wp2_with fail
          rw [Hw1.out]
          refine wp_region_below w1.heap.size (by kernel_rfl) (by kernel_rfl) ?_
          repeat (
            with_reducible refine wpQuiet_step (fun K hK => ?_)
            go_simp
            refine hK _ ?_
            clear hK K)
          refine wpQuiet_nil ?_
          rintro _ ⟨p, rfl⟩
          go_wp2_with fail
          refine (HF1.out p.x p.h).mono ?_
          rintro e w2 ⟨rfl, hb2⟩
          have Hb2 := Lib.hid (bthen (bthen Hb1.out p.h) hb2)
          have Hb3 := Lib.hid (bthen (bthen (bthen hb.out Hb1'.out) p.h) hb2); clear hb2
          rw [Ho.out]
          go_wp2_with fail
          go_roundw
          case rel => exact ⟨0 + 1, by omega, by go_num, Hall.out, Hb3.out⟩
          case measure => simp [intOf]; omega
        | some q =>
          have Ho : Hid (fstV ((l.take 0).findIdx? fun y => eqS y.nm x.nm) = .tuple #[.int .i64 (q : Int), .bool true]) := by show _ = _; rw [ho]; rfl
          have Hno : Hid (tf (Dist Tb.id Tb.nm l) = false) := tf_no (dist_name Hx.out ho)
          clear ho
          go_wp2_with fail
          rw [Hw1.out]
          refine wp_region_below w1.heap.size (by kernel_rfl) (by kernel_rfl) ?_
          repeat (
            with_reducible refine wpQuiet_step (fun K hK => ?_)
            go_simp
            refine hK _ ?_
            clear hK K)
          refine wpQuiet_nil ?_
          rintro _ ⟨p, rfl⟩
          go_wp2_with fail
          refine (HF1.out p.x p.h).mono ?_
          rintro e w2 ⟨rfl, hb2⟩
          have Hb2 := Lib.hid (bthen (bthen Hb1.out p.h) hb2)
          have Hb3 := Lib.hid (bthen (bthen (bthen hb.out Hb1'.out) p.h) hb2); clear hb2
          rw [Ho.out]
          go_wp2_with fail
          go_ret
          exact ⟨by rw [Hno.out]; rfl, Hb2.out⟩
      · obtain ⟨j, rfl⟩ : ∃ j, k = j + 1 := ⟨k - 1, by omega⟩
        clear hk0
        obtain ⟨y, hy⟩ : ∃ y, l[j]? = some y := ⟨l[j]'(by omega), by simp [show j < l.length by omega]⟩
        have Hy := Lib.hid hy
        obtain ⟨b', off', e', _, y0, y1, y2, y3, y4⟩ := (HA.out.below Hbw.out).get j y hy
        cases e'
        clear hy
        have Y0 : ∀ p : BelowBy w1.heap.size w1, p.x.cell? ⟨b, off + j * 5, none⟩ = some (.int .i64 y.id) := fun p => (p.h.cell (by have := Hs1.out; have := Hbw.out.size; simp; omega)).trans ((Hb1'.out.cell (by have := Hbw.out.size; simp; omega)).trans y0)
        have Y1 : ∀ p : BelowBy w1.heap.size w1, p.x.cell? ⟨b, off + j * 5 + 1, none⟩ = some (.string y.nm) := fun p => (p.h.cell (by have := Hs1.out; have := Hbw.out.size; simp; omega)).trans ((Hb1'.out.cell (by have := Hbw.out.size; simp; omega)).trans y1)
        have Y2 : ∀ p : BelowBy w1.heap.size w1, p.x.cell? ⟨b, off + j * 5 + 2, none⟩ = some (.int .i64 y.key) := fun p => (p.h.cell (by have := Hs1.out; have := Hbw.out.size; simp; omega)).trans ((Hb1'.out.cell (by have := Hbw.out.size; simp; omega)).trans y2)
        have Y3 : ∀ p : BelowBy w1.heap.size w1, p.x.cell? ⟨b, off + j * 5 + 3, none⟩ = some (.int .i64 y.nx) := fun p => (p.h.cell (by have := Hs1.out; have := Hbw.out.size; simp; omega)).trans ((Hb1'.out.cell (by have := Hbw.out.size; simp; omega)).trans y3)
        have Y4 : ∀ p : BelowBy w1.heap.size w1, p.x.cell? ⟨b, off + j * 5 + 4, none⟩ = some (.slice y.A y.cols.length y.cap) := fun p => (p.h.cell (by have := Hs1.out; have := Hbw.out.size; simp; omega)).trans ((Hb1'.out.cell (by have := Hbw.out.size; simp; omega)).trans y4)
        clear y0 y1 y2 y3 y4
        have hwj : IntKind.i64.wrap (j : Int) = (j : Int) := by rw [IntKind.wrap_i64]; omega
        have hj0 : (0 : Int) ≤ (j : Int) := by omega
        have hjl : (j : Int) < (l.length : Int) := by omega
        have HI := Lib.hid (fun w => idT_any y w)
        have HJ := Lib.hid (fun w => idT_any x w)
        cases hd : decide (x.id ≤ y.id)
        · have Hlt : Hid (y.id < x.id) := by have h := of_decide_eq_false hd; show _ < _; omega
          have Hok : Hid (∀ z, 0 < j + 1 → l[j + 1 - 1]? = some z → z.id < x.id) := fun z _ hz => by
            rw [show j + 1 - 1 = j by omega, Hy.out] at hz
            cases hz
            exact Hlt.out
          
          cases ho : (l.take (j + 1)).findIdx? fun y => eqS y.nm x.nm with
          | none =>
            have Ho : Hid (fstV ((l.take (j + 1)).findIdx? fun y => eqS y.nm x.nm) = .tuple #[.int .i64 0, .bool false]) := by show _ = _; rw [ho]; rfl
            have Hall : Hid (∀ i, i < j + 1 + 1 → OkAt Tb.id Tb.nm l i) := dist_more hall.out Hx.out Hok.out ho
            clear ho
            go_wp2_with fail
            rw [Hw1.out]
            refine wp_region_below w1.heap.size (by kernel_rfl) (by kernel_rfl) ?_
            repeat (
              with_reducible refine wpQuiet_step (fun K hK => ?_)
              go_simp
              refine hK _ ?_
              clear hK K)
            with_reducible refine wpQuiet_step (fun K hK => ?_)
            go_simp
            apply Exists.intro
            refine ⟨fun p => ?_, hK _ ?_⟩
            exact (HI.out _).mono fun e w5 ⟨he, hb⟩ => ⟨he, p.step (Nat.le_refl _) hb⟩
            clear hK K
            repeat (
              with_reducible refine wpQuiet_step (fun K hK => ?_)
              go_simp
              refine hK _ ?_
              clear hK K)
            with_reducible refine wpQuiet_step (fun K hK => ?_)
            go_simp
            apply Exists.intro
            refine ⟨fun p => ?_, hK _ ?_⟩
            exact (HJ.out _).mono fun e w5 ⟨he, hb⟩ => ⟨he, p.step (Nat.le_refl _) hb⟩
            clear hK K
            repeat (
              with_reducible refine wpQuiet_step (fun K hK => ?_)
              go_simp
              refine hK _ ?_
              clear hK K)
            refine wpQuiet_nil ?_
            rintro _ ⟨p, rfl⟩
            go_wp2_with fail
            refine (HF1.out p.x p.h).mono ?_
            rintro e w2 ⟨rfl, hb2⟩
            have Hb2 := Lib.hid (bthen (bthen Hb1.out p.h) hb2)
            have Hb3 := Lib.hid (bthen (bthen (bthen hb.out Hb1'.out) p.h) hb2); clear hb2
            rw [Ho.out]
            go_wp2_with fail
            go_roundw
            case rel => exact ⟨j + 1 + 1, by omega, by go_num, Hall.out, Hb3.out⟩
            case measure => simp [intOf]; omega
          | some q =>
            have Ho : Hid (fstV ((l.take (j + 1)).findIdx? fun y => eqS y.nm x.nm) = .tuple #[.int .i64 (q : Int), .bool true]) := by show _ = _; rw [ho]; rfl
            have Hno : Hid (tf (Dist Tb.id Tb.nm l) = false) := tf_no (dist_name Hx.out ho)
            clear ho
            go_wp2_with fail
            rw [Hw1.out]
            refine wp_region_below w1.heap.size (by kernel_rfl) (by kernel_rfl) ?_
            repeat (
              with_reducible refine wpQuiet_step (fun K hK => ?_)
              go_simp
              refine hK _ ?_
              clear hK K)
            with_reducible refine wpQuiet_step (fun K hK => ?_)
            go_simp
            apply Exists.intro
            refine ⟨fun p => ?_, hK _ ?_⟩
            exact (HI.out _).mono fun e w5 ⟨he, hb⟩ => ⟨he, p.step (Nat.le_refl _) hb⟩
            clear hK K
            repeat (
              with_reducible refine wpQuiet_step (fun K hK => ?_)
              go_simp
              refine hK _ ?_
              clear hK K)
            with_reducible refine wpQuiet_step (fun K hK => ?_)
            go_simp
            apply Exists.intro
            refine ⟨fun p => ?_, hK _ ?_⟩
            exact (HJ.out _).mono fun e w5 ⟨he, hb⟩ => ⟨he, p.step (Nat.le_refl _) hb⟩
            clear hK K
            repeat (
              with_reducible refine wpQuiet_step (fun K hK => ?_)
              go_simp
              refine hK _ ?_
              clear hK K)
            refine wpQuiet_nil ?_
            rintro _ ⟨p, rfl⟩
            go_wp2_with fail
            refine (HF1.out p.x p.h).mono ?_
            rintro e w2 ⟨rfl, hb2⟩
            have Hb2 := Lib.hid (bthen (bthen Hb1.out p.h) hb2)
            have Hb3 := Lib.hid (bthen (bthen (bthen hb.out Hb1'.out) p.h) hb2); clear hb2
            rw [Ho.out]
            go_wp2_with fail
            go_ret
            exact ⟨by rw [Hno.out]; rfl, Hb2.out⟩
        · have Hno : Hid (tf (Dist Tb.id Tb.nm l) = false) := tf_no (dist_id Hx.out Hy.out (of_decide_eq_true hd))
          go_wp2_with fail
          rw [Hw1.out]
          refine wp_region_below w1.heap.size (by kernel_rfl) (by kernel_rfl) ?_
          repeat (
            with_reducible refine wpQuiet_step (fun K hK => ?_)
            go_simp
            refine hK _ ?_
            clear hK K)
          with_reducible refine wpQuiet_step (fun K hK => ?_)
          go_simp
          apply Exists.intro
          refine ⟨fun p => ?_, hK _ ?_⟩
          exact (HI.out _).mono fun e w5 ⟨he, hb⟩ => ⟨he, p.step (Nat.le_refl _) hb⟩
          clear hK K
          repeat (
            with_reducible refine wpQuiet_step (fun K hK => ?_)
            go_simp
            refine hK _ ?_
            clear hK K)
          with_reducible refine wpQuiet_step (fun K hK => ?_)
          go_simp
          apply Exists.intro
          refine ⟨fun p => ?_, hK _ ?_⟩
          exact (HJ.out _).mono fun e w5 ⟨he, hb⟩ => ⟨he, p.step (Nat.le_refl _) hb⟩
          clear hK K
          repeat (
            with_reducible refine wpQuiet_step (fun K hK => ?_)
            go_simp
            refine hK _ ?_
            clear hK K)
          refine wpQuiet_nil ?_
          rintro _ ⟨p, rfl⟩
          go_wp2_with fail
          go_ret
          exact ⟨by rw [Hno.out]; rfl, bthen Hb1.out p.h⟩
    · have Hyes : Hid (tf (Dist Tb.id Tb.nm l) = true) := tf_yes fun i hi => hall.out i (by omega)
      go_wp2_with fail
      go_ret
      exact ⟨by rw [Hyes.out]; rfl, Hbw.out⟩
theorem entersDistC : ∀ args w, (callFunc 91 args).run Tryd.prog w = .ok (.enter 91 args) w := Go.Proofs.enters_of Tryd.func91 (by kernel_rfl) rfl
set_option maxRecDepth 100000 in
set_option maxHeartbeats 1600000 in
theorem distC_any (A : Option Addr) (cp : Nat) (l : List Cb) (w : World) (hA : ColsAt w w.heap.size A l) (hl : l.length ≤ 1000000) (hcp : l.length ≤ cp) :
    Calls Tryd.prog 75 #[.slice A l.length cp, .func (.func 76) #[] #[], .func (.func 77) #[] #[]] w fun e w' => e = .returned (.bool (tf (Dist Cb.id Cb.nm l))) ∧ Below w.heap.size w w' := by
  have HA := Lib.hid hA; clear hA
  have hmf : ∀ (fn : Fn) (first cap : Array Value) (w : World), (Instr.makeFunc fn first cap).run Tryd.prog w = .ok (.func fn first cap) w := fun _ _ _ _ => rfl
  have hb0 := Lib.hid (below_one w (.cells #[.func (.func 77) #[] #[]] 99))
  have hc0 : Hid ((w.alloc (.cells #[.func (.func 77) #[] #[]] 99)).cell? ⟨w.heap.size, 0, none⟩ = some (.func (.func 77) #[] #[])) := by show _ = _; simp
  have hs0 : Hid ((w.alloc (.cells #[.func (.func 77) #[] #[]] 99)).heap.size = w.heap.size + 1) := by show _ = _; simp
  go_enter Tryd.func75, Tryd.ntmps75
  go_wp2_with fail
  obtain ⟨w0, hw0⟩ : ∃ w0, w.alloc (.cells #[.func (.func 77) #[] #[]] 99) = w0 := ⟨_, rfl⟩
  rw [hw0] at hb0 hc0 hs0 ⊢
  clear hw0
  go_loopw [14] (fun i wr => ∃ k : Nat, k ≤ l.length ∧ i = .int .i64 k ∧ Hid (∀ j, j < k → OkAt Cb.id Cb.nm l j) ∧ Hid (Below w0.heap.size w0 wr)) (fun i _ => l.length - (intOf i).toNat)
  case atStart => exact ⟨0, by omega, rfl, fun j h => absurd h (by omega), Below.refl _ _⟩
  case round =>
    obtain ⟨k, hk, rfl, hall, hb⟩ := hrel
    have Hbw := Lib.hid (bthen hb0.out hb.out)
    have Hsz2 := Lib.hid hb.out.size
    by_cases hlt : k < l.length
    · obtain ⟨x, hx⟩ : ∃ x, l[k]? = some x := ⟨l[k], by simp [hlt]⟩
      have Hx := Lib.hid hx
      obtain ⟨b, off, rfl, hbB, c0, c1, c2, c3, c4, c5, c6, c7⟩ := ColsAt.get (RowAt.below HA.out Hbw.out) k x hx
      clear hx
      obtain ⟨w1, hw1⟩ : ∃ w1, wr.alloc (.cells (fC x).toArray 37) = w1 := ⟨_, rfl⟩
      have Hw1 : Hid (wr.alloc (.cells #[.int .i64 x.id, .string x.nm, .int .i64 x.tk, .int .i64 x.tm, .bool x.nl, .int .i64 x.dk, .int .i64 x.dn, .string x.ds] 37) = w1) := hw1
      have Hb1' : Hid (Below wr.heap.size wr w1) := by show Below _ _ _; rw [← hw1]; exact below_one wr _
      have Hb1 := Lib.hid (bthen Hbw.out Hb1'.out)
      have HX : Hid (BlkN w1 wr.heap.size (fC x)) := by show BlkN _ _ _; rw [← hw1]; exact BlkN.new wr _ (fC x) _ rfl
      have Hs1 : Hid (w1.heap.size = wr.heap.size + 1) := by show _ = _; rw [← hw1]; simp
      have HN1 : Hid (w1.cell? ⟨w.heap.size, 0, none⟩ = some (.func (.func 77) #[] #[])) := (Hb1'.out.cell (show w.heap.size < wr.heap.size by have := hs0.out; have := Hsz2.out; omega)).trans ((hb.out.cell (show w.heap.size < w0.heap.size by have := hs0.out; omega)).trans hc0.out)
      clear hw1
      have hlk : (l.take k).length = k := by rw [List.length_take]; omega
      have HF1 : Hid (∀ w', Below w1.heap.size w1 w' → Calls Tryd.prog 61 #[.slice (some ⟨b, off, none⟩) k cp, .func (.func 91) #[] #[.pointer (some ⟨w.heap.size, 0, none⟩), .pointer (some ⟨wr.heap.size, 0, none⟩)]] w' fun e w2 => e = .returned (fstV ((l.take k).findIdx? fun y => eqS y.nm x.nm)) ∧ Below w'.heap.size w' w2) := fun w' hb' => by
        have := firstC_any (some ⟨b, off, none⟩) cp (l.take k) 91 #[.pointer (some ⟨w.heap.size, 0, none⟩), .pointer (some ⟨wr.heap.size, 0, none⟩)] (fun y => eqS y.nm x.nm) w' ((RowAt.take (RowAt.to HA.out (bthen Hb1.out hb')) k)) (by omega) entersDistC (fun y _ w2 hb2 =>
          dist1C_any y x _ _ w2 (((bthen hb' hb2).cell (show w.heap.size < w1.heap.size by have := hs0.out; have := Hsz2.out; have := Hs1.out; omega)).trans HN1.out) (HX.out.below (bthen hb' hb2) (by have := Hs1.out; omega)))
        rwa [hlk] at this
      clear hlk
      have hne : Nonempty (BelowBy w1.heap.size w1) := ⟨⟨w1, Below.refl _ _⟩⟩
      have X0 : ∀ p : BelowBy w1.heap.size w1, p.x.cell? ⟨wr.heap.size, 0, none⟩ = some (.int .i64 x.id) := fun p => (p.h.cell (by have := Hs1.out; simp; omega)).trans (HX.out 0 _ rfl)
      have X1 : ∀ p : BelowBy w1.heap.size w1, p.x.cell? ⟨wr.heap.size, 1, none⟩ = some (.string x.nm) := fun p => (p.h.cell (by have := Hs1.out; simp; omega)).trans (HX.out 1 _ rfl)
      have X2 : ∀ p : BelowBy w1.heap.size w1, p.x.cell? ⟨wr.heap.size, 2, none⟩ = some (.int .i64 x.tk) := fun p => (p.h.cell (by have := Hs1.out; simp; omega)).trans (HX.out 2 _ rfl)
      have X3 : ∀ p : BelowBy w1.heap.size w1, p.x.cell? ⟨wr.heap.size, 3, none⟩ = some (.int .i64 x.tm) := fun p => (p.h.cell (by have := Hs1.out; simp; omega)).trans (HX.out 3 _ rfl)
      have X4 : ∀ p : BelowBy w1.heap.size w1, p.x.cell? ⟨wr.heap.size, 4, none⟩ = some (.bool x.nl) := fun p => (p.h.cell (by have := Hs1.out; simp; omega)).trans (HX.out 4 _ rfl)
      have X5 : ∀ p : BelowBy w1.heap.size w1, p.x.cell? ⟨wr.heap.size, 5, none⟩ = some (.int .i64 x.dk) := fun p => (p.h.cell (by have := Hs1.out; simp; omega)).trans (HX.out 5 _ rfl)
      have X6 : ∀ p : BelowBy w1.heap.size w1, p.x.cell? ⟨wr.heap.size, 6, none⟩ = some (.int .i64 x.dn) := fun p => (p.h.cell (by have := Hs1.out; simp; omega)).trans (HX.out 6 _ rfl)
      have X7 : ∀ p : BelowBy w1.heap.size w1, p.x.cell? ⟨wr.heap.size, 7, none⟩ = some (.string x.ds) := fun p => (p.h.cell (by have := Hs1.out; simp; omega)).trans (HX.out 7 _ rfl)
      by_cases hk0 : k = 0
      · subst hk0
        simp only [Nat.zero_mul, Nat.add_zero] at c0 c1 c2 c3 c4 c5 c6 c7
        cases ho : (l.take 0).findIdx? fun y => eqS y.nm x.nm with
        | none =>
          have Ho : Hid (fstV ((l.take 0).findIdx? fun y => eqS y.nm x.nm) = .tuple #[.int .i64 0, .bool false]) := by show _ = _; rw [ho]; rfl
          have Hall : Hid (∀ i, i < 0 + 1 → OkAt Cb.id Cb.nm l i) := dist_more hall.out Hx.out (fun y h _ => absurd h (by omega)) ho
          clear ho
          go_wp2_with fail
          rw [Hw1.out]
          refine wp_region_below w1.heap.size (by kernel_rfl) (by kernel_rfl) ?_
          repeat (
            with_reducible refine wpQuiet_step (fun K hK => ?_)
            go_simp
            refine hK _ ?_
            clear hK K)
          refine wpQuiet_nil ?_
          rintro _ ⟨p, rfl⟩
          go_wp2_with fail
          refine (HF1.out p.x p.h).mono ?_
          rintro e w2 ⟨rfl, hb2⟩
          have Hb2 := Lib.hid (bthen (bthen Hb1.out p.h) hb2)
          have Hb3 := Lib.hid (bthen (bthen (bthen hb.out Hb1'.out) p.h) hb2); clear hb2
          rw [Ho.out]
          go_wp2_with fail
          go_roundw
          case rel => exact ⟨0 + 1, by omega, by go_num, Hall.out, Hb3.out⟩
          case measure => simp [intOf]; omega
        | some q =>
          have Ho : Hid (fstV ((l.take 0).findIdx? fun y => eqS y.nm x.nm) = .tuple #[.int .i64 (q : Int), .bool true]) := by show _ = _; rw [ho]; rfl
          have Hno : Hid (tf (Dist Cb.id Cb.nm l) = false) := tf_no (dist_name Hx.out ho)
          clear ho
          go_wp2_with fail
          rw [Hw1.out]
          refine wp_region_below w1.heap.size (by kernel_rfl) (by kernel_rfl) ?_
          repeat (
            with_reducible refine wpQuiet_step (fun K hK => ?_)
            go_simp
            refine hK _ ?_
            clear hK K)
          refine wpQuiet_nil ?_
          rintro _ ⟨p, rfl⟩
          go_wp2_with fail
          refine (HF1.out p.x p.h).mono ?_
          rintro e w2 ⟨rfl, hb2⟩
          have Hb2 := Lib.hid (bthen (bthen Hb1.out p.h) hb2)
          have Hb3 := Lib.hid (bthen (bthen (bthen hb.out Hb1'.out) p.h) hb2); clear hb2
          rw [Ho.out]
          go_wp2_with fail
          go_ret
          exact ⟨by rw [Hno.out]; rfl, Hb2.out⟩
      · obtain ⟨j, rfl⟩ : ∃ j, k = j + 1 := ⟨k - 1, by omega⟩
        clear hk0
        obtain ⟨y, hy⟩ : ∃ y, l[j]? = some y := ⟨l[j]'(by omega), by simp [show j < l.length by omega]⟩
        have Hy := Lib.hid hy
        obtain ⟨b', off', e', _, y0, y1, y2, y3, y4, y5, y6, y7⟩ := ColsAt.get (RowAt.below HA.out Hbw.out) j y hy
        cases e'
        clear hy
        have Y0 : ∀ p : BelowBy w1.heap.size w1, p.x.cell? ⟨b, off + j * 8, none⟩ = some (.int .i64 y.id) := fun p => (p.h.cell (by have := Hs1.out; have := Hbw.out.size; simp; omega)).trans ((Hb1'.out.cell (by have := Hbw.out.size; simp; omega)).trans y0)
        have Y1 : ∀ p : BelowBy w1.heap.size w1, p.x.cell? ⟨b, off + j * 8 + 1, none⟩ = some (.string y.nm) := fun p => (p.h.cell (by have := Hs1.out; have := Hbw.out.size; simp; omega)).trans ((Hb1'.out.cell (by have := Hbw.out.size; simp; omega)).trans y1)
        have Y2 : ∀ p : BelowBy w1.heap.size w1, p.x.cell? ⟨b, off + j * 8 + 2, none⟩ = some (.int .i64 y.tk) := fun p => (p.h.cell (by have := Hs1.out; have := Hbw.out.size; simp; omega)).trans ((Hb1'.out.cell (by have := Hbw.out.size; simp; omega)).trans y2)
        have Y3 : ∀ p : BelowBy w1.heap.size w1, p.x.cell? ⟨b, off + j * 8 + 3, none⟩ = some (.int .i64 y.tm) := fun p => (p.h.cell (by have := Hs1.out; have := Hbw.out.size; simp; omega)).trans ((Hb1'.out.cell (by have := Hbw.out.size; simp; omega)).trans y3)
        have Y4 : ∀ p : BelowBy w1.heap.size w1, p.x.cell? ⟨b, off + j * 8 + 4, none⟩ = some (.bool y.nl) := fun p => (p.h.cell (by have := Hs1.out; have := Hbw.out.size; simp; omega)).trans ((Hb1'.out.cell (by have := Hbw.out.size; simp; omega)).trans y4)
        have Y5 : ∀ p : BelowBy w1.heap.size w1, p.x.cell? ⟨b, off + j * 8 + 5, none⟩ = some (.int .i64 y.dk) := fun p => (p.h.cell (by have := Hs1.out; have := Hbw.out.size; simp; omega)).trans ((Hb1'.out.cell (by have := Hbw.out.size; simp; omega)).trans y5)
        have Y6 : ∀ p : BelowBy w1.heap.size w1, p.x.cell? ⟨b, off + j * 8 + 6, none⟩ = some (.int .i64 y.dn) := fun p => (p.h.cell (by have := Hs1.out; have := Hbw.out.size; simp; omega)).trans ((Hb1'.out.cell (by have := Hbw.out.size; simp; omega)).trans y6)
        have Y7 : ∀ p : BelowBy w1.heap.size w1, p.x.cell? ⟨b, off + j * 8 + 7, none⟩ = some (.string y.ds) := fun p => (p.h.cell (by have := Hs1.out; have := Hbw.out.size; simp; omega)).trans ((Hb1'.out.cell (by have := Hbw.out.size; simp; omega)).trans y7)
        clear y0 y1 y2 y3 y4 y5 y6 y7
        have hwj : IntKind.i64.wrap (j : Int) = (j : Int) := by rw [IntKind.wrap_i64]; omega
        have hj0 : (0 : Int) ≤ (j : Int) := by omega
        have hjl : (j : Int) < (l.length : Int) := by omega
        have HI := Lib.hid (fun w => idC_any y w)
        have HJ := Lib.hid (fun w => idC_any x w)
        cases hd : decide (x.id ≤ y.id)
        · have Hlt : Hid (y.id < x.id) := by have h := of_decide_eq_false hd; show _ < _; omega
          have Hok : Hid (∀ z, 0 < j + 1 → l[j + 1 - 1]? = some z → z.id < x.id) := fun z _ hz => by
            rw [show j + 1 - 1 = j by omega, Hy.out] at hz
            cases hz
            exact Hlt.out
          
          cases ho : (l.take (j + 1)).findIdx? fun y => eqS y.nm x.nm with
          | none =>
            have Ho : Hid (fstV ((l.take (j + 1)).findIdx? fun y => eqS y.nm x.nm) = .tuple #[.int .i64 0, .bool false]) := by show _ = _; rw [ho]; rfl
            have Hall : Hid (∀ i, i < j + 1 + 1 → OkAt Cb.id Cb.nm l i) := dist_more hall.out Hx.out Hok.out ho
            clear ho
            go_wp2_with fail
            rw [Hw1.out]
            refine wp_region_below w1.heap.size (by kernel_rfl) (by kernel_rfl) ?_
            repeat (
              with_reducible refine wpQuiet_step (fun K hK => ?_)
              go_simp
              refine hK _ ?_
              clear hK K)
            with_reducible refine wpQuiet_step (fun K hK => ?_)
            go_simp
            apply Exists.intro
            refine ⟨fun p => ?_, hK _ ?_⟩
            exact (HI.out _).mono fun e w5 ⟨he, hb⟩ => ⟨he, p.step (Nat.le_refl _) hb⟩
            clear hK K
            repeat (
              with_reducible refine wpQuiet_step (fun K hK => ?_)
              go_simp
              refine hK _ ?_
              clear hK K)
            with_reducible refine wpQuiet_step (fun K hK => ?_)
            go_simp
            apply Exists.intro
            refine ⟨fun p => ?_, hK _ ?_⟩
            exact (HJ.out _).mono fun e w5 ⟨he, hb⟩ => ⟨he, p.step (Nat.le_refl _) hb⟩
            clear hK K
            repeat (
              with_reducible refine wpQuiet_step (fun K hK => ?_)
              go_simp
              refine hK _ ?_
              clear hK K)
            refine wpQuiet_nil ?_
            rintro _ ⟨p, rfl⟩
            go_wp2_with fail
            refine (HF1.out p.x p.h).mono ?_
            rintro e w2 ⟨rfl, hb2⟩
            have Hb2 := Lib.hid (bthen (bthen Hb1.out p.h) hb2)
            have Hb3 := Lib.hid (bthen (bthen (bthen hb.out Hb1'.out) p.h) hb2); clear hb2
            rw [Ho.out]
            go_wp2_with fail
            go_roundw
            case rel => exact ⟨j + 1 + 1, by omega, by go_num, Hall.out, Hb3.out⟩
            case measure => simp [intOf]; omega
          | some q =>
            have Ho : Hid (fstV ((l.take (j + 1)).findIdx? fun y => eqS y.nm x.nm) = .tuple #[.int .i64 (q : Int), .bool true]) := by show _ = _; rw [ho]; rfl
            have Hno : Hid (tf (Dist Cb.id Cb.nm l) = false) := tf_no (dist_name Hx.out ho)
            clear ho
            go_wp2_with fail
            rw [Hw1.out]
            refine wp_region_below w1.heap.size (by kernel_rfl) (by kernel_rfl) ?_
            repeat (
              with_reducible refine wpQuiet_step (fun K hK => ?_)
              go_simp
              refine hK _ ?_
              clear hK K)
            with_reducible refine wpQuiet_step (fun K hK => ?_)
            go_simp
            apply Exists.intro
            refine ⟨fun p => ?_, hK _ ?_⟩
            exact (HI.out _).mono fun e w5 ⟨he, hb⟩ => ⟨he, p.step (Nat.le_refl _) hb⟩
            clear hK K
            repeat (
              with_reducible refine wpQuiet_step (fun K hK => ?_)
              go_simp
              refine hK _ ?_
              clear hK K)
            with_reducible refine wpQuiet_step (fun K hK => ?_)
            go_simp
            apply Exists.intro
            refine ⟨fun p => ?_, hK _ ?_⟩
            exact (HJ.out _).mono fun e w5 ⟨he, hb⟩ => ⟨he, p.step (Nat.le_refl _) hb⟩
            clear hK K
            repeat (
              with_reducible refine wpQuiet_step (fun K hK => ?_)
              go_simp
              refine hK _ ?_
              clear hK K)
            refine wpQuiet_nil ?_
            rintro _ ⟨p, rfl⟩
            go_wp2_with fail
            refine (HF1.out p.x p.h).mono ?_
            rintro e w2 ⟨rfl, hb2⟩
            have Hb2 := Lib.hid (bthen (bthen Hb1.out p.h) hb2)
            have Hb3 := Lib.hid (bthen (bthen (bthen hb.out Hb1'.out) p.h) hb2); clear hb2
            rw [Ho.out]
            go_wp2_with fail
            go_ret
            exact ⟨by rw [Hno.out]; rfl, Hb2.out⟩
        · have Hno : Hid (tf (Dist Cb.id Cb.nm l) = false) := tf_no (dist_id Hx.out Hy.out (of_decide_eq_true hd))
          go_wp2_with fail
          rw [Hw1.out]
          refine wp_region_below w1.heap.size (by kernel_rfl) (by kernel_rfl) ?_
          repeat (
            with_reducible refine wpQuiet_step (fun K hK => ?_)
            go_simp
            refine hK _ ?_
            clear hK K)
          with_reducible refine wpQuiet_step (fun K hK => ?_)
          go_simp
          apply Exists.intro
          refine ⟨fun p => ?_, hK _ ?_⟩
          exact (HI.out _).mono fun e w5 ⟨he, hb⟩ => ⟨he, p.step (Nat.le_refl _) hb⟩
          clear hK K
          repeat (
            with_reducible refine wpQuiet_step (fun K hK => ?_)
            go_simp
            refine hK _ ?_
            clear hK K)
          with_reducible refine wpQuiet_step (fun K hK => ?_)
          go_simp
          apply Exists.intro
          refine ⟨fun p => ?_, hK _ ?_⟩
          exact (HJ.out _).mono fun e w5 ⟨he, hb⟩ => ⟨he, p.step (Nat.le_refl _) hb⟩
          clear hK K
          repeat (
            with_reducible refine wpQuiet_step (fun K hK => ?_)
            go_simp
            refine hK _ ?_
            clear hK K)
          refine wpQuiet_nil ?_
          rintro _ ⟨p, rfl⟩
          go_wp2_with fail
          go_ret
          exact ⟨by rw [Hno.out]; rfl, bthen Hb1.out p.h⟩
    · have Hyes : Hid (tf (Dist Cb.id Cb.nm l) = true) := tf_yes fun i hi => hall.out i (by omega)
      go_wp2_with fail
      go_ret
      exact ⟨by rw [Hyes.out]; rfl, Hbw.out⟩
end Go.Proofs.YtmcgcanpaffggaaDoor

/-
  Contracts of package schema's isNull, RightColumn, checkValue and of the document's own Column.
-/
namespace Go.Proofs.YtmcgcanpaffggaaDoor
open Go.RowKit

theorem isNull_any (k n : Int) (s : ByteArray) (w : World) : Calls Tryd.prog 49 #[VV k n s] w fun e w' => e = .returned (.bool (nulV k n s)) ∧ Below w.heap.size w w' := by
  have Hv : Hid (nulV k n s = ((k == 0) && ((n == 0) && eqS s ⟨#[]⟩))) := rfl
  have q := fun w k n s => run_eql_V w k n 0 0 s ⟨#[]⟩
  go_enter Tryd.func49, Tryd.ntmps49
  go_wp2_with fail
  go_ret
  exact ⟨by rw [Hv.out]; rfl, by go_grown⟩
theorem below_one' (w : World) (o : Obj) : Below w.heap.size w (w.alloc o) := (Below.refl _ _).alloc (Nat.le_refl _) o
set_option maxRecDepth 100000 in
set_option maxHeartbeats 1600000 in
theorem rcol_any (c : Cb) (w : World) (ht : UTab w) (hw : WfC c) : Calls Tryd.prog 12 #[CV c] w fun e w' => e = .returned (.bool (rightC c)) ∧ Below w.heap.size w w' := by
  have Hw := Lib.hid hw; clear hw
  have HT := Lib.hid (ht.alloc (.cells (fC c).toArray 37)); clear ht
  have HN := Lib.hid (fun w => nright_any c.nm w Hw.out.1)
  have HR := Lib.hid (fun w => tright_any c.tk c.tm w)
  have HF := Lib.hid (fun w ht => tfits_any c.tk c.tm c.dk c.dn c.ds w ht)
  have HB := Lib.hid (BlkN.new w _ (fC c) 37 rfl)
  have hb0 := Lib.hid (below_one' w (.cells (fC c).toArray 37))
  have Hv : Hid (rightC c = (decide (0 ≤ c.id) && (decide (c.id < 200) && (rightN (bs c.nm) && (rightT c.tk c.tm && (nulV c.dk c.dn c.ds || fitT c.tk c.tm c.dk c.dn c.ds)))))) := rfl
  have HU := Lib.hid (fun w => isNull_any c.dk c.dn c.ds w)
  generalize h1 : decide (0 ≤ c.id) = b1 at Hv
  generalize h2 : decide (c.id < 200) = b2 at Hv
  generalize rightN (bs c.nm) = b3 at Hv HN
  generalize rightT c.tk c.tm = b4 at Hv HR
  generalize nulV c.dk c.dn c.ds = b5 at Hv HU
  generalize fitT c.tk c.tm c.dk c.dn c.ds = b6 at Hv HF
  cases b1
  · go_enter Tryd.func12, Tryd.ntmps12
    go_wp2_with fail
    go_ret
    exact ⟨by rw [Hv.out]; rfl, by go_grown⟩
  cases b2
  · go_enter Tryd.func12, Tryd.ntmps12
    go_wp2_with fail
    go_ret
    exact ⟨by rw [Hv.out]; rfl, by go_grown⟩
  cases b3
  · go_enter Tryd.func12, Tryd.ntmps12
    go_wp2_with fail
    refine (HN.out _).mono ?_
    rintro e w1 ⟨rfl, rfl⟩
    go_wp2_with fail
    go_ret
    exact ⟨by rw [Hv.out]; rfl, by go_grown⟩
  cases b4
  · go_enter Tryd.func12, Tryd.ntmps12
    go_wp2_with fail
    refine (HN.out _).mono ?_
    rintro e w1 ⟨rfl, rfl⟩
    go_wp2_with fail
    refine (HR.out _).mono ?_
    rintro e w1 ⟨rfl, hb1⟩
    have Hb1 := Lib.hid (bthen hb0.out hb1)
    have HK1 := Lib.hid (HB.out.below hb1 (by simp))
    have HT1 := Lib.hid (HT.out.below hb1 (Nat.le_refl _))
    clear hb1
    obtain ⟨c0, c1, c2, c3, c4, c5, c6, c7⟩ := HK1.out.col
    go_wp2_with fail
    go_ret
    exact ⟨by rw [Hv.out]; rfl, Hb1.out⟩
  cases b5
  · go_enter Tryd.func12, Tryd.ntmps12
    go_wp2_with fail
    refine (HN.out _).mono ?_
    rintro e w1 ⟨rfl, rfl⟩
    go_wp2_with fail
    refine (HR.out _).mono ?_
    rintro e w1 ⟨rfl, hb1⟩
    have Hb1 := Lib.hid (bthen hb0.out hb1)
    have HK1 := Lib.hid (HB.out.below hb1 (by simp))
    have HT1 := Lib.hid (HT.out.below hb1 (Nat.le_refl _))
    clear hb1
    obtain ⟨c0, c1, c2, c3, c4, c5, c6, c7⟩ := HK1.out.col
    go_wp2_with fail
    refine (HU.out _).mono ?_
    rintro e w2 ⟨rfl, hb2⟩
    have Hb2 := Lib.hid (bthen Hb1.out hb2)
    have HK2 := Lib.hid (HK1.out.below hb2 (by have := World.block_lt_of_cell? _ _ c0; simpa using this))
    have HT2 := Lib.hid (HT1.out.below hb2 (Nat.le_refl _))
    clear hb2 c0 c1 c2 c3 c4 c5 c6 c7
    obtain ⟨c0, c1, c2, c3, c4, c5, c6, c7⟩ := HK2.out.col
    go_wp2_with fail
    refine (HF.out _ HT2.out).mono ?_
    rintro e w3 ⟨rfl, hb3⟩
    have Hb3 := Lib.hid (bthen Hb2.out hb3); clear hb3
    go_wp2_with fail
    go_ret
    exact ⟨by rw [Hv.out]; rfl, Hb3.out⟩
  · go_enter Tryd.func12, Tryd.ntmps12
    go_wp2_with fail
    refine (HN.out _).mono ?_
    rintro e w1 ⟨rfl, rfl⟩
    go_wp2_with fail
    refine (HR.out _).mono ?_
    rintro e w1 ⟨rfl, hb1⟩
    have Hb1 := Lib.hid (bthen hb0.out hb1)
    have HK1 := Lib.hid (HB.out.below hb1 (by simp))
    have HT1 := Lib.hid (HT.out.below hb1 (Nat.le_refl _))
    clear hb1
    obtain ⟨c0, c1, c2, c3, c4, c5, c6, c7⟩ := HK1.out.col
    go_wp2_with fail
    refine (HU.out _).mono ?_
    rintro e w2 ⟨rfl, hb2⟩
    have Hb2 := Lib.hid (bthen Hb1.out hb2)
    have HK2 := Lib.hid (HK1.out.below hb2 (by have := World.block_lt_of_cell? _ _ c0; simpa using this))
    have HT2 := Lib.hid (HT1.out.below hb2 (Nat.le_refl _))
    clear hb2 c0 c1 c2 c3 c4 c5 c6 c7
    obtain ⟨c0, c1, c2, c3, c4, c5, c6, c7⟩ := HK2.out.col
    go_wp2_with fail
    go_ret
    exact ⟨by rw [Hv.out]; rfl, Hb2.out⟩
set_option maxRecDepth 100000 in
set_option maxHeartbeats 1600000 in
theorem rrcol_any (c : Cb) (w : World) (hw : WfC c) : Calls Tryd.prog 13 #[CV c] w fun e w' => e = .returned (.bool (rightC c)) ∧ Below w.heap.size w w' := by
  have Hw := Lib.hid hw; clear hw
  have HN := Lib.hid (fun w => nrright_any c.nm w Hw.out.1)
  have HR := Lib.hid (fun w => trright_any c.tk c.tm w)
  have HF := Lib.hid (fun w => trfits_any c.tk c.tm c.dk c.dn c.ds w Hw.out.2.1 Hw.out.2.2)
  have HB := Lib.hid (BlkN.new w _ (fC c) 37 rfl)
  have hb0 := Lib.hid (below_one' w (.cells (fC c).toArray 37))
  have Hv : Hid (rightC c = (decide (0 ≤ c.id) && (decide (c.id < 200) && (rightN (bs c.nm) && (rightT c.tk c.tm && (nulV c.dk c.dn c.ds || fitT c.tk c.tm c.dk c.dn c.ds)))))) := rfl
  have q : ∀ w, (binOp .eql 35 (VV c.dk c.dn c.ds) (VV 0 0 ⟨#[]⟩)).run Tryd.prog w = .ok (.bool (nulV c.dk c.dn c.ds)) w := fun w => run_eql_V w c.dk c.dn 0 0 c.ds ⟨#[]⟩
  generalize h1 : decide (0 ≤ c.id) = b1 at Hv
  generalize h2 : decide (c.id < 200) = b2 at Hv
  generalize rightN (bs c.nm) = b3 at Hv HN
  generalize rightT c.tk c.tm = b4 at Hv HR
  generalize nulV c.dk c.dn c.ds = b5 at Hv q
  generalize fitT c.tk c.tm c.dk c.dn c.ds = b6 at Hv HF
  cases b1
  · go_enter Tryd.func13, Tryd.ntmps13
    go_wp2_with fail
    go_ret
    exact ⟨by rw [Hv.out]; rfl, by go_grown⟩
  cases b2
  · go_enter Tryd.func13, Tryd.ntmps13
    go_wp2_with fail
    go_ret
    exact ⟨by rw [Hv.out]; rfl, by go_grown⟩
  cases b3
  · go_enter Tryd.func13, Tryd.ntmps13
    go_wp2_with fail
    refine (HN.out _).mono ?_
    rintro e w1 ⟨rfl, rfl⟩
    go_wp2_with fail
    go_ret
    exact ⟨by rw [Hv.out]; rfl, by go_grown⟩
  cases b4
  · go_enter Tryd.func13, Tryd.ntmps13
    go_wp2_with fail
    refine (HN.out _).mono ?_
    rintro e w1 ⟨rfl, rfl⟩
    go_wp2_with fail
    refine (HR.out _).mono ?_
    rintro e w1 ⟨rfl, hb1⟩
    have Hb1 := Lib.hid (bthen hb0.out hb1)
    have HK1 := Lib.hid (HB.out.below hb1 (by simp))
    clear hb1
    obtain ⟨c0, c1, c2, c3, c4, c5, c6, c7⟩ := HK1.out.col
    go_wp2_with fail
    go_ret
    exact ⟨by rw [Hv.out]; rfl, Hb1.out⟩
  cases b5
  · go_enter Tryd.func13, Tryd.ntmps13
    go_wp2_with fail
    refine (HN.out _).mono ?_
    rintro e w1 ⟨rfl, rfl⟩
    go_wp2_with fail
    refine (HR.out _).mono ?_
    rintro e w1 ⟨rfl, hb1⟩
    have Hb1 := Lib.hid (bthen hb0.out hb1)
    have HK1 := Lib.hid (HB.out.below hb1 (by simp))
    clear hb1
    obtain ⟨c0, c1, c2, c3, c4, c5, c6, c7⟩ := HK1.out.col
    go_wp2_with fail
    refine (HF.out _).mono ?_
    rintro e w2 ⟨rfl, hb2⟩
    have Hb2 := Lib.hid (bthen Hb1.out hb2); clear hb2
    go_wp2_with fail
    go_ret
    exact ⟨by rw [Hv.out]; rfl, Hb2.out⟩
  · go_enter Tryd.func13, Tryd.ntmps13
    go_wp2_with fail
    refine (HN.out _).mono ?_
    rintro e w1 ⟨rfl, rfl⟩
    go_wp2_with fail
    refine (HR.out _).mono ?_
    rintro e w1 ⟨rfl, hb1⟩
    have Hb1 := Lib.hid (bthen hb0.out hb1)
    have HK1 := Lib.hid (HB.out.below hb1 (by simp))
    clear hb1
    obtain ⟨c0, c1, c2, c3, c4, c5, c6, c7⟩ := HK1.out.col
    go_wp2_with fail
    go_ret
    exact ⟨by rw [Hv.out]; rfl, Hb1.out⟩
end Go.Proofs.YtmcgcanpaffggaaDoor

/-
  Contracts of package schema's rightColumns, rightKey, RightTable and Right.
-/
namespace Go.Proofs.YtmcgcanpaffggaaDoor
open Go.RowKit

set_option maxRecDepth 100000 in
theorem rcols1_any (c : Cb) (b : Nat) (nx : Int) (w : World) (ht : UTab w) (hw : WfC c) (hc : w.cell? ⟨b, 3, none⟩ = some (.int .i64 nx)) :
    Calls Tryd.prog 74 #[CV c, .pointer (some ⟨b, 0, none⟩)] w fun e w' => e = .returned (.bool (rightC c && decide (c.id < nx))) ∧ Below w.heap.size w w' := by
  have hlt := World.block_lt_of_cell? w ⟨b, 3, none⟩ hc
  have hk := Lib.hid (keep_alloc hc (.cells (fC c).toArray 37)); clear hc
  have hb0 := Lib.hid (below_one w (.cells (fC c).toArray 37))
  have HB := Lib.hid (BlkN.new w _ (fC c) 37 rfl)
  have HR := Lib.hid (rcol_any c _ (ht.alloc (.cells (fC c).toArray 37)) hw); clear ht hw
  generalize rightC c = r at HR
  cases r
  all_goals
    go_enter Tryd.func74, Tryd.ntmps74
    go_wp2_with fail
    refine HR.out.mono ?_
    rintro e w1 ⟨rfl, hb1⟩
    have Hb1 := Lib.hid (bthen hb0.out hb1)
    have HK := Lib.hid (HB.out.below hb1 (by simp))
    have hn : w1.cell? ⟨b, 3, none⟩ = some (.int .i64 nx) := (hb1.cell (by simp; exact Nat.lt_succ_of_lt hlt)).trans hk.out
    clear hb1
    obtain ⟨c0, _⟩ := HK.out.col
    go_wp2_with fail
    go_ret
    exact ⟨by simp, Hb1.out⟩
theorem entersRCols : ∀ args w, (callFunc 74 args).run Tryd.prog w = .ok (.enter 74 args) w := Go.Proofs.enters_of Tryd.func74 (by kernel_rfl) rfl
set_option maxRecDepth 100000 in
set_option maxHeartbeats 800000 in
theorem rcols_any (t : Tb) (w : World) (ht : UTab w) (hw : WfT t) (hA : TabAt w w.heap.size t) :
    Calls Tryd.prog 45 #[TV t] w fun e w' => e = .returned (.bool (rightCols t)) ∧ Below w.heap.size w w' := by
  have HW := Lib.hid hw; clear hw
  have hmf : ∀ (fn : Fn) (first cap : Array Value) (w : World), (Instr.makeFunc fn first cap).run Tryd.prog w = .ok (.func fn first cap) w := fun _ _ _ _ => rfl
  have hb0 := Lib.hid (below_one w (.cells (fT t).toArray 29))
  have HB := Lib.hid (BlkN.new w _ (fT t) 29 rfl)
  have HA := Lib.hid (RowAt.to hA hb0.out); clear hA
  have HT := Lib.hid (ht.alloc (.cells (fT t).toArray 29)); clear ht
  have Hv : Hid (rightCols t = ((t.cols.all fun c => rightC c && decide (c.id < t.nx)) && tf (Dist Cb.id Cb.nm t.cols))) := rfl
  have HC := Lib.hid (allC_any t.A t.cap t.cols 74 #[.pointer (some ⟨w.heap.size, 0, none⟩)] (fun c => rightC c && decide (c.id < t.nx)) _ HA.out HW.out.2.1 entersRCols
    (fun x hx w' hb' => rcols1_any x _ t.nx w' (HT.out.below hb' (Nat.le_refl _)) (HW.out.2.2.2 x hx) ((hb'.cell (by simp)).trans HB.out.tab.2.2.2.1)))
  have HD := Lib.hid (fun w' hA' => distC_any t.A t.cap t.cols w' hA' HW.out.2.1 HW.out.2.2.1)
  generalize (t.cols.all fun c => rightC c && decide (c.id < t.nx)) = r at HC Hv
  generalize tf (Dist Cb.id Cb.nm t.cols) = d at HD Hv
  cases r
  · go_enter Tryd.func45, Tryd.ntmps45
    go_wp2_with fail
    refine HC.out.mono ?_
    rintro e w1 ⟨rfl, hb1⟩
    have Hb1 := Lib.hid (bthen hb0.out hb1); clear hb1
    go_wp2_with fail
    go_ret
    exact ⟨by rw [Hv.out]; rfl, Hb1.out⟩
  · go_enter Tryd.func45, Tryd.ntmps45
    go_wp2_with fail
    refine HC.out.mono ?_
    rintro e w1 ⟨rfl, hb1⟩
    have Hb1 := Lib.hid (bthen hb0.out hb1)
    have HA1 := Lib.hid (RowAt.to HA.out hb1)
    have HK := Lib.hid (HB.out.below hb1 (by simp)); clear hb1
    obtain ⟨c0, c1, c2, c3, c4⟩ := HK.out.tab
    go_wp2_with fail
    refine (HD.out _ HA1.out).mono ?_
    rintro e w2 ⟨rfl, hb2⟩
    have Hb2 := Lib.hid (bthen Hb1.out hb2); clear hb2
    go_wp2_with fail
    go_ret
    exact ⟨by rw [Hv.out]; rfl, Hb2.out⟩
set_option maxRecDepth 100000 in
set_option maxHeartbeats 800000 in
theorem rkey_any (t : Tb) (w : World) (hw : WfT t) (hA : TabAt w w.heap.size t) :
    Calls Tryd.prog 46 #[TV t] w fun e w' => e = .returned (.bool (tf (keyOk t))) ∧ Below w.heap.size w w' := by
  have hb0 := Lib.hid (below_one w (.cells (fT t).toArray 29))
  have HB := Lib.hid (BlkN.new w _ (fT t) 29 rfl)
  have HA := Lib.hid (RowAt.to hA hb0.out); clear hA
  have HK := Lib.hid (skey_any t _ HA.out hw.2.1)
  have hlen := hw.2.1; clear hw
  cases ho : t.cols.findIdx? fun c => c.id == t.key with
  | none =>
    have Ho : Hid (fstV (t.cols.findIdx? fun c => c.id == t.key) = .tuple #[.int .i64 0, .bool false]) := by show _ = _; rw [ho]; rfl
    have Hno : Hid (tf (keyOk t) = false) := tf_no (by rintro ⟨i, c, h, _⟩; rw [ho] at h; cases h)
    clear ho
    rw [Ho.out] at HK
    go_enter Tryd.func46, Tryd.ntmps46
    go_wp2_with fail
    refine HK.out.mono ?_
    rintro e w1 ⟨rfl, hb1⟩
    have Hb1 := Lib.hid (bthen hb0.out hb1); clear hb1
    go_wp2_with fail
    go_ret
    exact ⟨by rw [Hno.out]; rfl, Hb1.out⟩
  | some k =>
    have Ho : Hid (fstV (t.cols.findIdx? fun c => c.id == t.key) = .tuple #[.int .i64 (k : Int), .bool true]) := by show _ = _; rw [ho]; rfl
    obtain ⟨c, hc, _⟩ := find_some ho
    have hkl := find_lt ho
    have Hyes : Hid (tf (keyOk t) = !c.nl) := by
      show _ = _
      apply bool_eq
      rw [tf_iff]
      constructor
      · rintro ⟨i, c', h, h2, h3⟩
        rw [ho] at h; cases h
        rw [hc] at h2; cases h2
        simp [h3]
      · intro h
        exact ⟨k, c, ho, hc, by simpa using h⟩
    have Hc := Lib.hid hc
    clear ho hc
    rw [Ho.out] at HK
    go_enter Tryd.func46, Tryd.ntmps46
    go_wp2_with fail
    refine HK.out.mono ?_
    rintro e w1 ⟨rfl, hb1⟩
    have Hb1 := Lib.hid (bthen hb0.out hb1)
    have HK1 := Lib.hid (HB.out.below hb1 (by simp))
    obtain ⟨c0, c1, c2, c3, c4⟩ := HK1.out.tab
    obtain ⟨b, off, hAe, hbB, d0, d1, d2, d3, d4, d5, d6, d7⟩ := ColsAt.get (RowAt.below HA.out hb1) k c Hc.out
    rw [hAe] at c4
    clear hb1
    go_wp2_with fail
    go_ret
    exact ⟨by rw [Hyes.out]; rfl, Hb1.out⟩
end Go.Proofs.YtmcgcanpaffggaaDoor

/-
  Contracts of package schema's RightTable and Right.
-/
namespace Go.Proofs.YtmcgcanpaffggaaDoor
open Go.RowKit

set_option maxRecDepth 100000 in
set_option maxHeartbeats 1600000 in
theorem rtab_any (t : Tb) (w : World) (ht : UTab w) (hw : WfT t) (hA : TabAt w w.heap.size t) :
    Calls Tryd.prog 10 #[TV t] w fun e w' => e = .returned (.bool (rightTab t)) ∧ Below w.heap.size w w' := by
  have hb0 := Lib.hid (below_one w (.cells (fT t).toArray 29))
  have HB := Lib.hid (BlkN.new w _ (fT t) 29 rfl)
  have HA := Lib.hid (RowAt.to hA hb0.out); clear hA
  have HT := Lib.hid (ht.alloc (.cells (fT t).toArray 29)); clear ht
  have HN := Lib.hid (fun w => nright_any t.nm w hw.1)
  have HC := Lib.hid (rcols_any t _ HT.out hw HA.out)
  have HK := Lib.hid (fun w' hA' => rkey_any t w' hw hA'); clear hw
  have Hv : Hid (rightTab t = (decide (0 ≤ t.id) && (rightN (bs t.nm) && (decide (t.nx ≤ 200) && (decide (1 ≤ (t.cols.length : Int)) && (decide ((t.cols.length : Int) ≤ 10) && (rightCols t && tf (keyOk t)))))))) := rfl
  generalize h1 : decide (0 ≤ t.id) = b1 at Hv
  generalize rightN (bs t.nm) = b2 at Hv HN
  generalize h3 : decide (t.nx ≤ 200) = b3 at Hv
  generalize h4 : decide (1 ≤ (t.cols.length : Int)) = b4 at Hv
  generalize h5 : decide ((t.cols.length : Int) ≤ 10) = b5 at Hv
  generalize rightCols t = b6 at Hv HC
  generalize tf (keyOk t) = b7 at Hv HK
  cases b1
  · go_enter Tryd.func10, Tryd.ntmps10
    go_wp2_with fail
    go_ret
    exact ⟨by rw [Hv.out]; rfl, by go_grown⟩
  cases b2
  · go_enter Tryd.func10, Tryd.ntmps10
    go_wp2_with fail
    refine (HN.out _).mono ?_
    rintro e w1 ⟨rfl, rfl⟩
    go_wp2_with fail
    go_ret
    exact ⟨by rw [Hv.out]; rfl, by go_grown⟩
  cases b3
  · go_enter Tryd.func10, Tryd.ntmps10
    go_wp2_with fail
    refine (HN.out _).mono ?_
    rintro e w1 ⟨rfl, rfl⟩
    go_wp2_with fail
    go_ret
    exact ⟨by rw [Hv.out]; rfl, by go_grown⟩
  cases b4
  · go_enter Tryd.func10, Tryd.ntmps10
    go_wp2_with fail
    refine (HN.out _).mono ?_
    rintro e w1 ⟨rfl, rfl⟩
    go_wp2_with fail
    go_ret
    exact ⟨by rw [Hv.out]; rfl, by go_grown⟩
  cases b5
  · go_enter Tryd.func10, Tryd.ntmps10
    go_wp2_with fail
    refine (HN.out _).mono ?_
    rintro e w1 ⟨rfl, rfl⟩
    go_wp2_with fail
    go_ret
    exact ⟨by rw [Hv.out]; rfl, by go_grown⟩
  cases b6
  · go_enter Tryd.func10, Tryd.ntmps10
    go_wp2_with fail
    refine (HN.out _).mono ?_
    rintro e w1 ⟨rfl, rfl⟩
    go_wp2_with fail
    refine HC.out.mono ?_
    rintro e w1 ⟨rfl, hb1⟩
    have Hb1 := Lib.hid (bthen hb0.out hb1)
    have HA1 := Lib.hid (RowAt.to HA.out hb1)
    have HK1 := Lib.hid (HB.out.below hb1 (by simp)); clear hb1
    obtain ⟨c0, c1, c2, c3, c4⟩ := HK1.out.tab
    go_wp2_with fail
    go_ret
    exact ⟨by rw [Hv.out]; rfl, Hb1.out⟩
  · go_enter Tryd.func10, Tryd.ntmps10
    go_wp2_with fail
    refine (HN.out _).mono ?_
    rintro e w1 ⟨rfl, rfl⟩
    go_wp2_with fail
    refine HC.out.mono ?_
    rintro e w1 ⟨rfl, hb1⟩
    have Hb1 := Lib.hid (bthen hb0.out hb1)
    have HA1 := Lib.hid (RowAt.to HA.out hb1)
    have HK1 := Lib.hid (HB.out.below hb1 (by simp)); clear hb1
    obtain ⟨c0, c1, c2, c3, c4⟩ := HK1.out.tab
    go_wp2_with fail
    refine (HK.out _ HA1.out).mono ?_
    rintro e w2 ⟨rfl, hb2⟩
    have Hb2 := Lib.hid (bthen Hb1.out hb2); clear hb2
    go_wp2_with fail
    go_ret
    exact ⟨by rw [Hv.out]; rfl, Hb2.out⟩
theorem entersRTab : ∀ args w, (callFunc 10 args).run Tryd.prog w = .ok (.enter 10 args) w := Go.Proofs.enters_of Tryd.func10 (by kernel_rfl) rfl
set_option maxRecDepth 100000 in
set_option maxHeartbeats 1600000 in
theorem rcat_any (A : Option Addr) (cp : Nat) (l : List Tb) (w : World) (ht : UTab w) (hA : TabsAt w w.heap.size A l) (hw : ∀ t ∈ l, WfT t) (hl : l.length ≤ 1000000) (hcp : l.length ≤ cp) :
    Calls Tryd.prog 14 #[.agg #[.slice A l.length cp]] w fun e w' => e = .returned (.bool (rightCat l)) ∧ Below w.heap.size w w' := by
  have hb0 := Lib.hid (below_one w (.cells #[.slice A l.length cp] 24))
  have HB : Hid (BlkN (w.alloc (.cells #[.slice A l.length cp] 24)) w.heap.size [.slice A l.length cp]) := BlkN.new w _ [.slice A l.length cp] 24 rfl
  have HA := Lib.hid (hA.to hb0.out); clear hA
  have HT := Lib.hid (ht.alloc (.cells #[.slice A l.length cp] 24)); clear ht
  have HC := Lib.hid (allT_any A cp l 10 #[] rightTab _ HA.out hl entersRTab
    (fun x hx w' hb' => by
      rw [show (#[TV x] ++ (#[] : Array Value)) = #[TV x] by simp]
      exact rtab_any x w' (HT.out.below hb' (Nat.le_refl _)) (hw x hx) ((HA.out.to hb').2 x hx)))
  have HD := Lib.hid (fun w' hA' => distT_any A cp l w' hA' hl hcp); clear hw
  have Hv : Hid (rightCat l = (decide ((l.length : Int) ≤ 6) && (l.all rightTab && tf (Dist Tb.id Tb.nm l)))) := rfl
  generalize h1 : decide ((l.length : Int) ≤ 6) = b1 at Hv
  generalize l.all rightTab = b2 at Hv HC
  generalize tf (Dist Tb.id Tb.nm l) = b3 at Hv HD
  cases b1
  · go_enter Tryd.func14, Tryd.ntmps14
    go_wp2_with fail
    go_ret
    exact ⟨by rw [Hv.out]; rfl, by go_grown⟩
  cases b2
  · go_enter Tryd.func14, Tryd.ntmps14
    go_wp2_with fail
    refine HC.out.mono ?_
    rintro e w1 ⟨rfl, hb1⟩
    have Hb1 := Lib.hid (bthen hb0.out hb1)
    have HA1 := Lib.hid (HA.out.to hb1)
    have HK1 := Lib.hid (HB.out.below hb1 (by simp)); clear hb1
    have c0 := HK1.out.one
    go_wp2_with fail
    go_ret
    exact ⟨by rw [Hv.out]; rfl, Hb1.out⟩
  · go_enter Tryd.func14, Tryd.ntmps14
    go_wp2_with fail
    refine HC.out.mono ?_
    rintro e w1 ⟨rfl, hb1⟩
    have Hb1 := Lib.hid (bthen hb0.out hb1)
    have HA1 := Lib.hid (HA.out.to hb1)
    have HK1 := Lib.hid (HB.out.below hb1 (by simp)); clear hb1
    have c0 := HK1.out.one
    go_wp2_with fail
    refine (HD.out _ HA1.out).mono ?_
    rintro e w2 ⟨rfl, hb2⟩
    have Hb2 := Lib.hid (bthen Hb1.out hb2); clear hb2
    go_wp2_with fail
    go_ret
    exact ⟨by rw [Hv.out]; rfl, Hb2.out⟩
end Go.Proofs.YtmcgcanpaffggaaDoor

/-
  Contracts of the document's own Find, ById, Col and Key of layer 8.
-/
namespace Go.Proofs.YtmcgcanpaffggaaDoor
open Go.RowKit

/-- a table, a column, a slice in a new box -/
theorem box_tab (w : World) (t : Tb) : ∃ w0, w.alloc (.cells #[.int .i64 t.id, .string t.nm, .int .i64 t.key, .int .i64 t.nx, .slice t.A t.cols.length t.cap] 29) = w0 ∧ Below w.heap.size w w0 ∧ BlkN w0 w.heap.size (fT t) ∧ w0.heap.size = w.heap.size + 1 :=
  ⟨_, rfl, (Below.refl _ _).alloc (Nat.le_refl _) _, BlkN.new w _ (fT t) _ rfl, by simp⟩
theorem box_col (w : World) (c : Cb) : ∃ w0, w.alloc (.cells #[.int .i64 c.id, .string c.nm, .int .i64 c.tk, .int .i64 c.tm, .bool c.nl, .int .i64 c.dk, .int .i64 c.dn, .string c.ds] 37) = w0 ∧ Below w.heap.size w w0 ∧ BlkN w0 w.heap.size (fC c) ∧ w0.heap.size = w.heap.size + 1 :=
  ⟨_, rfl, (Below.refl _ _).alloc (Nat.le_refl _) _, BlkN.new w _ (fC c) _ rfl, by simp⟩
theorem box_one (w : World) (v : Value) (ty : TypeId) : ∃ w0, w.alloc (.cells #[v] ty) = w0 ∧ Below w.heap.size w w0 ∧ BlkN w0 w.heap.size [v] ∧ w0.heap.size = w.heap.size + 1 :=
  ⟨_, rfl, (Below.refl _ _).alloc (Nat.le_refl _) _, BlkN.new w _ [v] _ rfl, by simp⟩
set_option maxRecDepth 100000 in
set_option maxHeartbeats 800000 in
theorem rfind_any (A : Option Addr) (cp : Nat) (l : List Tb) (s : ByteArray) (w : World) (hA : TabsAt w w.heap.size A l) (hl : l.length ≤ 1000000) :
    Calls Tryd.prog 20 #[.agg #[.slice A l.length cp], .string s] w fun e w' => e = .returned (.int .i64 (idxI (l.findIdx? fun x => eqS x.nm s))) ∧ Below w.heap.size w w' := by
  obtain ⟨w0, hw0, hb0, hB, hs0⟩ := box_one w (.slice A l.length cp) 24
  have Hw0 := Lib.hid hw0; clear hw0
  have Hb0 := Lib.hid hb0
  have HA := Lib.hid (hA.to hb0); clear hA hb0
  have c4 := hB.one
  clear hB
  have Hs0 := Lib.hid hs0; clear hs0
  go_enter Tryd.func20, Tryd.ntmps20
  go_wp2_with fail
  rw [Hw0.out]
  go_loop [5] (fun i => ∃ k : Nat, k ≤ l.length ∧ i = .int .i64 k ∧ Hid (∀ j x, l[j]? = some x → j < k → (eqS x.nm s) = false)) (fun i => l.length - (intOf i).toNat)
  case atStart => exact ⟨0, by omega, rfl, fun j v _ h => absurd h (by omega)⟩
  case round =>
    obtain ⟨k, hk, rfl, hall⟩ := hrel
    by_cases hlt : k < l.length
    · obtain ⟨x, hx⟩ : ∃ x, l[k]? = some x := ⟨l[k], by simp [hlt]⟩
      have Hx := Lib.hid hx
      obtain ⟨b, off, hAe, hbB, d0, d1, d2, d3, d4⟩ := HA.out.get k x hx
      clear hx
      have Hc4 := Lib.hid c4
      rw [hAe] at c4
      cases hp : (eqS x.nm s)
      · have Hall : Hid (∀ j x, l[j]? = some x → j < k + 1 → (eqS x.nm s) = false) := fun j y hj hk => by
          by_cases e : j = k
          · subst e
            rw [Hx.out] at hj
            cases hj
            exact hp
          · exact hall.out j y hj (by omega)
        go_wp2_with fail
        go_round
        case rel => exact ⟨k + 1, by omega, by go_num, Hall.out⟩
        case measure => simp [intOf]; omega
      · have Hfi : Hid ((l.findIdx? fun x => eqS x.nm s) = some k) := find_at hall.out Hx.out hp
        go_wp2_with fail
        go_ret
        exact ⟨by rw [Hfi.out]; rfl, Hb0.out⟩
    · have Hfi : Hid ((l.findIdx? fun x => eqS x.nm s) = none) := find_no fun j x hj => hall.out j x hj (by have := (List.getElem?_eq_some_iff.1 hj).1; omega)
      go_wp2_with fail
      go_ret
      exact ⟨by rw [Hfi.out]; rfl, Hb0.out⟩
set_option maxRecDepth 100000 in
set_option maxHeartbeats 800000 in
theorem rbyId_any (A : Option Addr) (cp : Nat) (l : List Tb) (s : Int) (w : World) (hA : TabsAt w w.heap.size A l) (hl : l.length ≤ 1000000) :
    Calls Tryd.prog 21 #[.agg #[.slice A l.length cp], .int .i64 s] w fun e w' => e = .returned (.int .i64 (idxI (l.findIdx? fun x => x.id == s))) ∧ Below w.heap.size w w' := by
  obtain ⟨w0, hw0, hb0, hB, hs0⟩ := box_one w (.slice A l.length cp) 24
  have Hw0 := Lib.hid hw0; clear hw0
  have Hb0 := Lib.hid hb0
  have HA := Lib.hid (hA.to hb0); clear hA hb0
  have c4 := hB.one
  clear hB
  have Hs0 := Lib.hid hs0; clear hs0
  go_enter Tryd.func21, Tryd.ntmps21
  go_wp2_with fail
  rw [Hw0.out]
  go_loop [5] (fun i => ∃ k : Nat, k ≤ l.length ∧ i = .int .i64 k ∧ Hid (∀ j x, l[j]? = some x → j < k → (x.id == s) = false)) (fun i => l.length - (intOf i).toNat)
  case atStart => exact ⟨0, by omega, rfl, fun j v _ h => absurd h (by omega)⟩
  case round =>
    obtain ⟨k, hk, rfl, hall⟩ := hrel
    by_cases hlt : k < l.length
    · obtain ⟨x, hx⟩ : ∃ x, l[k]? = some x := ⟨l[k], by simp [hlt]⟩
      have Hx := Lib.hid hx
      obtain ⟨b, off, hAe, hbB, d0, d1, d2, d3, d4⟩ := HA.out.get k x hx
      clear hx
      have Hc4 := Lib.hid c4
      rw [hAe] at c4
      cases hp : (x.id == s)
      · have Hall : Hid (∀ j x, l[j]? = some x → j < k + 1 → (x.id == s) = false) := fun j y hj hk => by
          by_cases e : j = k
          · subst e
            rw [Hx.out] at hj
            cases hj
            exact hp
          · exact hall.out j y hj (by omega)
        go_wp2_with fail
        go_round
        case rel => exact ⟨k + 1, by omega, by go_num, Hall.out⟩
        case measure => simp [intOf]; omega
      · have Hfi : Hid ((l.findIdx? fun x => x.id == s) = some k) := find_at hall.out Hx.out hp
        go_wp2_with fail
        go_ret
        exact ⟨by rw [Hfi.out]; rfl, Hb0.out⟩
    · have Hfi : Hid ((l.findIdx? fun x => x.id == s) = none) := find_no fun j x hj => hall.out j x hj (by have := (List.getElem?_eq_some_iff.1 hj).1; omega)
      go_wp2_with fail
      go_ret
      exact ⟨by rw [Hfi.out]; rfl, Hb0.out⟩
set_option maxRecDepth 100000 in
set_option maxHeartbeats 800000 in
theorem rcolI_any (t : Tb) (s : ByteArray) (w : World) (hA : TabAt w w.heap.size t) (hl : t.cols.length ≤ 1000000) :
    Calls Tryd.prog 26 #[TV t, .string s] w fun e w' => e = .returned (.int .i64 (idxI (colI t s))) ∧ Below w.heap.size w w' := by
  obtain ⟨w0, hw0, hb0, hB, hs0⟩ := box_tab w t
  have Hw0 := Lib.hid hw0; clear hw0
  have Hb0 := Lib.hid hb0
  have HA := Lib.hid (RowAt.to hA hb0); clear hA hb0
  obtain ⟨c0, c1, c2, c3, c4⟩ := hB.tab
  clear hB
  have Hs0 := Lib.hid hs0; clear hs0
  go_enter Tryd.func26, Tryd.ntmps26
  go_wp2_with fail
  rw [Hw0.out]
  go_loop [5] (fun i => ∃ k : Nat, k ≤ t.cols.length ∧ i = .int .i64 k ∧ Hid (∀ j x, t.cols[j]? = some x → j < k → (eqS x.nm s) = false)) (fun i => t.cols.length - (intOf i).toNat)
  case atStart => exact ⟨0, by omega, rfl, fun j v _ h => absurd h (by omega)⟩
  case round =>
    obtain ⟨k, hk, rfl, hall⟩ := hrel
    by_cases hlt : k < t.cols.length
    · obtain ⟨x, hx⟩ : ∃ x, t.cols[k]? = some x := ⟨t.cols[k], by simp [hlt]⟩
      have Hx := Lib.hid hx
      obtain ⟨b, off, hAe, hbB, d0, d1, d2, d3, d4, d5, d6, d7⟩ := ColsAt.get HA.out k x hx
      clear hx
      have Hc4 := Lib.hid c4
      rw [hAe] at c4
      cases hp : (eqS x.nm s)
      · have Hall : Hid (∀ j x, t.cols[j]? = some x → j < k + 1 → (eqS x.nm s) = false) := fun j y hj hk => by
          by_cases e : j = k
          · subst e
            rw [Hx.out] at hj
            cases hj
            exact hp
          · exact hall.out j y hj (by omega)
        go_wp2_with fail
        go_round
        case rel => exact ⟨k + 1, by omega, by go_num, Hall.out⟩
        case measure => simp [intOf]; omega
      · have Hfi : Hid ((colI t s) = some k) := find_at hall.out Hx.out hp
        go_wp2_with fail
        go_ret
        exact ⟨by rw [Hfi.out]; rfl, Hb0.out⟩
    · have Hfi : Hid ((colI t s) = none) := find_no fun j x hj => hall.out j x hj (by have := (List.getElem?_eq_some_iff.1 hj).1; omega)
      go_wp2_with fail
      go_ret
      exact ⟨by rw [Hfi.out]; rfl, Hb0.out⟩
set_option maxRecDepth 100000 in
set_option maxHeartbeats 800000 in
theorem rkeyI_any (t : Tb) (w : World) (hA : TabAt w w.heap.size t) (hl : t.cols.length ≤ 1000000) :
    Calls Tryd.prog 27 #[TV t] w fun e w' => e = .returned (.int .i64 (idxI (t.cols.findIdx? fun x => x.id == t.key))) ∧ Below w.heap.size w w' := by
  obtain ⟨w0, hw0, hb0, hB, hs0⟩ := box_tab w t
  have Hw0 := Lib.hid hw0; clear hw0
  have Hb0 := Lib.hid hb0
  have HA := Lib.hid (RowAt.to hA hb0); clear hA hb0
  have HB := Lib.hid hB; clear hB
  have Hs0 := Lib.hid hs0; clear hs0
  go_enter Tryd.func27, Tryd.ntmps27
  go_wp2_with fail
  rw [Hw0.out]
  go_loopw [3] (fun i wr => ∃ k : Nat, k ≤ t.cols.length ∧ i = .int .i64 k ∧ Hid (∀ j x, t.cols[j]? = some x → j < k → (x.id == t.key) = false) ∧ Hid (Below w0.heap.size w0 wr)) (fun i _ => t.cols.length - (intOf i).toNat)
  case atStart => exact ⟨0, by omega, rfl, fun j v _ h => absurd h (by omega), Below.refl _ _⟩
  case round =>
    obtain ⟨k, hk, rfl, hall, hb⟩ := hrel
    have Hbw := Lib.hid (bthen Hb0.out hb.out)
    obtain ⟨c0, c1, c2, c3, c4⟩ := (HB.out.below hb.out (show w.heap.size < w0.heap.size by have := Hs0.out; omega)).tab
    by_cases hlt : k < t.cols.length
    · obtain ⟨x, hx⟩ : ∃ x, t.cols[k]? = some x := ⟨t.cols[k], by simp [hlt]⟩
      have Hx := Lib.hid hx
      obtain ⟨b, off, hAe, hbB, d0, _⟩ := ColsAt.get (RowAt.below HA.out hb.out) k x hx
      clear hx
      rw [hAe] at c4
      have hne : Nonempty (BelowBy wr.heap.size wr) := ⟨⟨wr, Below.refl _ _⟩⟩
      have C2 : ∀ p : BelowBy wr.heap.size wr, p.x.cell? ⟨w.heap.size, 2, none⟩ = some (.int .i64 t.key) := fun p => (p.h.cell (by have := Hs0.out; have := hb.out.size; simp; omega)).trans c2
      have C4 : ∀ p : BelowBy wr.heap.size wr, p.x.cell? ⟨w.heap.size, 4, none⟩ = some (.slice (some ⟨b, off, none⟩) t.cols.length t.cap) := fun p => (p.h.cell (by have := Hs0.out; have := hb.out.size; simp; omega)).trans c4
      have D0 : ∀ p : BelowBy wr.heap.size wr, p.x.cell? ⟨b, off + k * 8, none⟩ = some (.int .i64 x.id) := fun p => (p.h.cell (by have := hb.out.size; simp; omega)).trans d0
      clear hAe
      cases hp : (x.id == t.key)
      · have Hall : Hid (∀ j x, t.cols[j]? = some x → j < k + 1 → (x.id == t.key) = false) := fun j y hj hk => by
          by_cases e : j = k
          · subst e
            rw [Hx.out] at hj
            cases hj
            exact hp
          · exact hall.out j y hj (by omega)
        go_wp2_with fail
        refine wp_region_below wr.heap.size (by kernel_rfl) (by kernel_rfl) ?_
        repeat (
          with_reducible refine wpQuiet_step (fun K hK => ?_)
          go_simp
          refine hK _ ?_
          clear hK K)
        refine wpQuiet_nil ?_
        rintro _ ⟨p, rfl⟩
        go_wp2_with fail
        go_roundw
        case rel => exact ⟨k + 1, by omega, by go_num, Hall.out, bthen hb.out p.h⟩
        case measure => simp [intOf]; omega
      · have Hfi : Hid ((t.cols.findIdx? fun x => x.id == t.key) = some k) := find_at hall.out Hx.out hp
        go_wp2_with fail
        refine wp_region_below wr.heap.size (by kernel_rfl) (by kernel_rfl) ?_
        repeat (
          with_reducible refine wpQuiet_step (fun K hK => ?_)
          go_simp
          refine hK _ ?_
          clear hK K)
        refine wpQuiet_nil ?_
        rintro _ ⟨p, rfl⟩
        go_wp2_with fail
        go_ret
        exact ⟨by rw [Hfi.out]; rfl, bthen Hbw.out p.h⟩
    · have Hfi : Hid ((t.cols.findIdx? fun x => x.id == t.key) = none) := find_no fun j x hj => hall.out j x hj (by have := (List.getElem?_eq_some_iff.1 hj).1; omega)
      go_wp2_with fail
      go_ret
      exact ⟨by rw [Hfi.out]; rfl, Hbw.out⟩
end Go.Proofs.YtmcgcanpaffggaaDoor

/-
  Contracts of package schema's checkValue and Row.
-/
namespace Go.Proofs.YtmcgcanpaffggaaDoor
open Go.RowKit

theorem box_cv (w : World) (c : Cb) (k n : Int) (s : ByteArray) : ∃ w0, (w.alloc (.cells #[.int .i64 c.id, .string c.nm, .int .i64 c.tk, .int .i64 c.tm, .bool c.nl, .int .i64 c.dk, .int .i64 c.dn, .string c.ds] 37)).alloc (.cells #[.int .i64 k, .int .i64 n, .string s] 35) = w0 ∧
    Below w.heap.size w w0 ∧ BlkN w0 w.heap.size (fC c) ∧ BlkN w0 (w.heap.size + 1) [.int .i64 k, .int .i64 n, .string s] ∧ w0.heap.size = w.heap.size + 2 :=
  ⟨_, rfl, below_two w _ _, (BlkN.new w _ (fC c) _ rfl).alloc (by simp) _, BlkN.new _ _ [.int .i64 k, .int .i64 n, .string s] _ (by simp), by simp⟩
theorem celE_cases (c : Cb) (v : Vb) : (nulV v.1 v.2.1 v.2.2 = true ∧ c.nl = true ∧ celE c v = 0) ∨ (nulV v.1 v.2.1 v.2.2 = true ∧ c.nl = false ∧ celE c v = 11) ∨
    (nulV v.1 v.2.1 v.2.2 = false ∧ fitT c.tk c.tm v.1 v.2.1 v.2.2 = true ∧ celE c v = 0) ∨ (nulV v.1 v.2.1 v.2.2 = false ∧ fitT c.tk c.tm v.1 v.2.1 v.2.2 = false ∧ celE c v = 10) := by
  unfold celE
  cases h1 : nulV v.1 v.2.1 v.2.2 <;> cases h2 : c.nl <;> cases h3 : fitT c.tk c.tm v.1 v.2.1 v.2.2 <;> simp
theorem celE_vals (c : Cb) (v : Vb) : celE c v = 0 ∨ celE c v = 10 ∨ celE c v = 11 := by
  rcases celE_cases c v with ⟨_, _, h⟩ | ⟨_, _, h⟩ | ⟨_, _, h⟩ | ⟨_, _, h⟩ <;> simp [h]
set_option maxRecDepth 100000 in
set_option maxHeartbeats 1600000 in
theorem chkv_any (c : Cb) (k n : Int) (s : ByteArray) (w : World) (ht : UTab w) :
    Calls Tryd.prog 67 #[CV c, VV k n s] w fun e w' => e = .returned (.int .i64 (celE c (k, n, s))) ∧ Below w.heap.size w w' := by
  obtain ⟨w0, hw0, hb0, hC, hV, hs0⟩ := box_cv w c k n s
  have Hw0 := Lib.hid hw0; clear hw0
  have Hb0 := Lib.hid hb0
  have HT := Lib.hid (ht.below hb0 (Nat.le_refl _)); clear ht hb0
  have HC := Lib.hid hC; clear hC
  have HV := Lib.hid hV; clear hV
  have Hs0 := Lib.hid hs0; clear hs0
  have HU := Lib.hid (fun w => isNull_any k n s w)
  have HF := Lib.hid (fun w ht => tfits_any c.tk c.tm k n s w ht)
  rcases celE_cases c (k, n, s) with ⟨h1, h2, h3⟩ | ⟨h1, h2, h3⟩ | ⟨h1, h2, h3⟩ | ⟨h1, h2, h3⟩
  · have He := Lib.hid h3; clear h3
    rw [show nulV k n s = true from h1] at HU
    have H2 := Lib.hid h2
    clear h1 h2
    go_enter Tryd.func67, Tryd.ntmps67
    go_wp2_with fail
    refine (HU.out _).mono ?_
    rintro e w1 ⟨rfl, hb1⟩
    rw [Hw0.out] at hb1
    have Hb1 := Lib.hid (bthen Hb0.out hb1)
    have HC1 := Lib.hid (HC.out.below hb1 (by have := Hs0.out; omega))
    have HV1 := Lib.hid (HV.out.below hb1 (by have := Hs0.out; omega))
    have HT1 := Lib.hid (HT.out.below hb1 (Nat.le_refl _))
    have Hs1 : Hid (w.heap.size + 1 < w1.heap.size) := by show _ < _; have := hb1.size; have := Hs0.out; omega
    clear hb1
    obtain ⟨c0, c1, c2, c3, c4, c5, c6, c7⟩ := HC1.out.col
    rw [H2.out] at c4
    have v0 := HV1.out 0 _ rfl; have v1 := HV1.out 1 _ rfl; have v2 := HV1.out 2 _ rfl
    go_wp2_with fail
    go_ret
    exact ⟨by rw [He.out]; rfl, Hb1.out⟩
  · have He := Lib.hid h3; clear h3
    rw [show nulV k n s = true from h1] at HU
    have H2 := Lib.hid h2
    clear h1 h2
    go_enter Tryd.func67, Tryd.ntmps67
    go_wp2_with fail
    refine (HU.out _).mono ?_
    rintro e w1 ⟨rfl, hb1⟩
    rw [Hw0.out] at hb1
    have Hb1 := Lib.hid (bthen Hb0.out hb1)
    have HC1 := Lib.hid (HC.out.below hb1 (by have := Hs0.out; omega))
    have HV1 := Lib.hid (HV.out.below hb1 (by have := Hs0.out; omega))
    have HT1 := Lib.hid (HT.out.below hb1 (Nat.le_refl _))
    have Hs1 : Hid (w.heap.size + 1 < w1.heap.size) := by show _ < _; have := hb1.size; have := Hs0.out; omega
    clear hb1
    obtain ⟨c0, c1, c2, c3, c4, c5, c6, c7⟩ := HC1.out.col
    rw [H2.out] at c4
    have v0 := HV1.out 0 _ rfl; have v1 := HV1.out 1 _ rfl; have v2 := HV1.out 2 _ rfl
    go_wp2_with fail
    refine (HU.out _).mono ?_
    rintro e w2 ⟨rfl, hb2⟩
    have Hb2 := Lib.hid (bthen Hb1.out hb2)
    have HC2 := Lib.hid (HC1.out.below hb2 (by have := Hs1.out; omega))
    have HV2 := Lib.hid (HV1.out.below hb2 (by have := Hs1.out; omega))
    have HT2 := Lib.hid (HT1.out.below hb2 (Nat.le_refl _))
    clear hb2 c0 c1 c2 c3 c4 c5 c6 c7 v0 v1 v2
    obtain ⟨c0, c1, c2, c3, c4, c5, c6, c7⟩ := HC2.out.col
    have v0 := HV2.out 0 _ rfl; have v1 := HV2.out 1 _ rfl; have v2 := HV2.out 2 _ rfl
    go_wp2_with fail
    go_ret
    exact ⟨by rw [He.out]; rfl, Hb2.out⟩
  · have He := Lib.hid h3; clear h3
    rw [show nulV k n s = false from h1] at HU
    rw [show fitT c.tk c.tm k n s = true from h2] at HF
    clear h1 h2
    go_enter Tryd.func67, Tryd.ntmps67
    go_wp2_with fail
    refine (HU.out _).mono ?_
    rintro e w1 ⟨rfl, hb1⟩
    rw [Hw0.out] at hb1
    have Hb1 := Lib.hid (bthen Hb0.out hb1)
    have HC1 := Lib.hid (HC.out.below hb1 (by have := Hs0.out; omega))
    have HV1 := Lib.hid (HV.out.below hb1 (by have := Hs0.out; omega))
    have HT1 := Lib.hid (HT.out.below hb1 (Nat.le_refl _))
    have Hs1 : Hid (w.heap.size + 1 < w1.heap.size) := by show _ < _; have := hb1.size; have := Hs0.out; omega
    clear hb1
    obtain ⟨c0, c1, c2, c3, c4, c5, c6, c7⟩ := HC1.out.col
    have v0 := HV1.out 0 _ rfl; have v1 := HV1.out 1 _ rfl; have v2 := HV1.out 2 _ rfl
    go_wp2_with fail
    refine (HU.out _).mono ?_
    rintro e w2 ⟨rfl, hb2⟩
    have Hb2 := Lib.hid (bthen Hb1.out hb2)
    have HC2 := Lib.hid (HC1.out.below hb2 (by have := Hs1.out; omega))
    have HV2 := Lib.hid (HV1.out.below hb2 (by have := Hs1.out; omega))
    have HT2 := Lib.hid (HT1.out.below hb2 (Nat.le_refl _))
    clear hb2 c0 c1 c2 c3 c4 c5 c6 c7 v0 v1 v2
    obtain ⟨c0, c1, c2, c3, c4, c5, c6, c7⟩ := HC2.out.col
    have v0 := HV2.out 0 _ rfl; have v1 := HV2.out 1 _ rfl; have v2 := HV2.out 2 _ rfl
    go_wp2_with fail
    refine (HF.out _ HT2.out).mono ?_
    rintro e w3 ⟨rfl, hb3⟩
    have Hb3 := Lib.hid (bthen Hb2.out hb3); clear hb3
    go_wp2_with fail
    go_ret
    exact ⟨by rw [He.out]; rfl, Hb3.out⟩
  · have He := Lib.hid h3; clear h3
    rw [show nulV k n s = false from h1] at HU
    rw [show fitT c.tk c.tm k n s = false from h2] at HF
    clear h1 h2
    go_enter Tryd.func67, Tryd.ntmps67
    go_wp2_with fail
    refine (HU.out _).mono ?_
    rintro e w1 ⟨rfl, hb1⟩
    rw [Hw0.out] at hb1
    have Hb1 := Lib.hid (bthen Hb0.out hb1)
    have HC1 := Lib.hid (HC.out.below hb1 (by have := Hs0.out; omega))
    have HV1 := Lib.hid (HV.out.below hb1 (by have := Hs0.out; omega))
    have HT1 := Lib.hid (HT.out.below hb1 (Nat.le_refl _))
    have Hs1 : Hid (w.heap.size + 1 < w1.heap.size) := by show _ < _; have := hb1.size; have := Hs0.out; omega
    clear hb1
    obtain ⟨c0, c1, c2, c3, c4, c5, c6, c7⟩ := HC1.out.col
    have v0 := HV1.out 0 _ rfl; have v1 := HV1.out 1 _ rfl; have v2 := HV1.out 2 _ rfl
    go_wp2_with fail
    refine (HU.out _).mono ?_
    rintro e w2 ⟨rfl, hb2⟩
    have Hb2 := Lib.hid (bthen Hb1.out hb2)
    have HC2 := Lib.hid (HC1.out.below hb2 (by have := Hs1.out; omega))
    have HV2 := Lib.hid (HV1.out.below hb2 (by have := Hs1.out; omega))
    have HT2 := Lib.hid (HT1.out.below hb2 (Nat.le_refl _))
    clear hb2 c0 c1 c2 c3 c4 c5 c6 c7 v0 v1 v2
    obtain ⟨c0, c1, c2, c3, c4, c5, c6, c7⟩ := HC2.out.col
    have v0 := HV2.out 0 _ rfl; have v1 := HV2.out 1 _ rfl; have v2 := HV2.out 2 _ rfl
    go_wp2_with fail
    refine (HF.out _ HT2.out).mono ?_
    rintro e w3 ⟨rfl, hb3⟩
    have Hb3 := Lib.hid (bthen Hb2.out hb3); clear hb3
    go_wp2_with fail
    go_ret
    exact ⟨by rw [He.out]; rfl, Hb3.out⟩
theorem rightTab_len {t : Tb} (h : rightTab t = true) : 1 ≤ t.cols.length ∧ t.cols.length ≤ 10 := by
  unfold rightTab at h
  simp only [Bool.and_eq_true, decide_eq_true_eq] at h
  obtain ⟨_, _, _, h4, h5, _⟩ := h
  omega
theorem rowT_no {t : Tb} {vs : List Vb} (h : rightTab t = false) : rowT t vs = 2 := by unfold rowT; rw [if_neg (by rw [h]; simp)]
theorem rowT_len {t : Tb} {vs : List Vb} (h : rightTab t = true) (hl : vs.length ≠ t.cols.length) : rowT t vs = 5 := by unfold rowT; rw [if_pos h, if_neg hl]
theorem rowT_yes {t : Tb} {vs : List Vb} (h : rightTab t = true) (hl : vs.length = t.cols.length) : rowT t vs = rowE t.cols vs := by unfold rowT; rw [if_pos h, if_pos hl]
theorem neq_int (z : Int) : (z != 0) = !(z == 0) := rfl

set_option maxRecDepth 100000 in
set_option maxHeartbeats 3200000 in
theorem row_any (t : Tb) (A : Option Addr) (cp : Nat) (vs : List Vb) (w : World) (ht : UTab w) (hw : WfT t) (hA : TabAt w w.heap.size t) (hR : ValsAt w w.heap.size A vs) (hvl : vs.length ≤ 1000000) :
    Calls Tryd.prog 32 #[TV t, .slice A vs.length cp] w fun e w' => e = .returned (.int .i64 (rowT t vs)) ∧ Below w.heap.size w w' := by
  obtain ⟨w0, hw0, hb0, hB, hs0⟩ := box_tab w t
  have Hw0 := Lib.hid hw0; clear hw0
  have Hb0 := Lib.hid hb0
  have HA := Lib.hid (RowAt.to hA hb0); clear hA
  have HR := Lib.hid (hR.to hb0); clear hR
  have HT := Lib.hid (ht.below hb0 (Nat.le_refl _)); clear ht hb0
  have HB := Lib.hid hB; clear hB
  have Hs0 := Lib.hid hs0; clear hs0
  have hlen := hw.2.1
  have HQ := Lib.hid (rtab_any t w0 HT.out hw HA.out); clear hw
  rw [← Hw0.out] at HQ
  cases hr : rightTab t
  · rw [hr] at HQ
    have He := Lib.hid (rowT_no (vs := vs) hr)
    clear hr
    go_enter Tryd.func32, Tryd.ntmps32
    go_wp2_with fail
    refine HQ.out.mono ?_
    rintro e w1 ⟨rfl, hb1⟩
    rw [Hw0.out] at hb1
    have Hb1 := Lib.hid (bthen Hb0.out hb1); clear hb1
    go_wp2_with fail
    go_ret
    exact ⟨by rw [He.out]; rfl, Hb1.out⟩
  rw [hr] at HQ
  have Hpos := Lib.hid (rightTab_len hr)
  by_cases hll : vs.length = t.cols.length
  · have hneq : ((vs.length : Int) != (t.cols.length : Int)) = false := by simp [hll]
    have heql : ((vs.length : Int) == (t.cols.length : Int)) = true := by simp [hll]
    have He := Lib.hid (rowT_yes hr hll)
    have Hll := Lib.hid hll
    clear hr hll
    obtain ⟨b, off, hAe, _⟩ := HA.out (by have := Hpos.out; omega)
    have HAe := Lib.hid hAe; clear hAe
    go_enter Tryd.func32, Tryd.ntmps32
    go_wp2_with fail
    refine HQ.out.mono ?_
    rintro e w1 ⟨rfl, hb1⟩
    rw [Hw0.out] at hb1
    have Hb1 := Lib.hid hb1; clear hb1
    obtain ⟨c0, c1, c2, c3, c4⟩ := (HB.out.below Hb1.out (by have := Hs0.out; omega)).tab
    rw [HAe.out] at c4
    go_wp2_with fail
    clear c0 c1 c2 c3 c4 hneq heql
    go_loopw [20] (fun i wr => ∃ k : Nat, k ≤ t.cols.length ∧ i = .int .i64 k ∧ Hid (∀ j c v, j < k → t.cols[j]? = some c → vs[j]? = some v → celE c v = 0) ∧ Hid (Below w0.heap.size w0 wr)) (fun i _ => t.cols.length - (intOf i).toNat)
    case atStart => exact ⟨0, by omega, rfl, fun j c v h => absurd h (by omega), Hb1.out⟩
    case round =>
      obtain ⟨k, hk, rfl, hall, hb⟩ := hrel
      have Hbw := Lib.hid (bthen Hb0.out hb.out)
      by_cases hlt : k < t.cols.length
      · have hlt2 : k < vs.length := by have := Hll.out; omega
        obtain ⟨c, hc⟩ : ∃ c, t.cols[k]? = some c := ⟨t.cols[k], by simp [hlt]⟩
        obtain ⟨v, hv⟩ : ∃ v, vs[k]? = some v := ⟨vs[k], by simp [hlt2]⟩
        have Hc := Lib.hid hc
        have Hv := Lib.hid hv
        obtain ⟨b', off', e', hbB, d0, d1, d2, d3, d4, d5, d6, d7⟩ := ColsAt.get (RowAt.below HA.out hb.out) k c hc
        rw [HAe.out] at e'
        cases e'
        obtain ⟨b2, off2, rfl, hbB2, f0⟩ := (HR.out.below hb.out) (by omega)
        obtain ⟨f0, f1, f2⟩ := f0 k v hv
        clear hc hv
        obtain ⟨w2, hw2, hb2, hX, hs2⟩ := box_col wr c
        have Hw2 := Lib.hid hw2; clear hw2
        have Hs2 := Lib.hid hs2; clear hs2
        have HX := Lib.hid hX; clear hX
        have Hb2 := Lib.hid hb2
        have HT2 := Lib.hid ((HT.out.below hb.out (Nat.le_refl _)).below hb2 (Nat.le_refl _)); clear hb2
        have HCV := Lib.hid (fun w ht => chkv_any c v.1 v.2.1 v.2.2 w ht)
        have Hb2lt : Hid (b2 < wr.heap.size) := by show _ < _; have := hb.out.size; omega
        have hne : Nonempty (BelowBy w2.heap.size w2) := ⟨⟨w2, Below.refl _ _⟩⟩
        have X0 : ∀ p : BelowBy w2.heap.size w2, p.x.cell? ⟨wr.heap.size, 0, none⟩ = some (.int .i64 c.id) := fun p => (p.h.cell (by have := Hs2.out; simp; omega)).trans (HX.out 0 _ rfl)
        have X1 : ∀ p : BelowBy w2.heap.size w2, p.x.cell? ⟨wr.heap.size, 1, none⟩ = some (.string c.nm) := fun p => (p.h.cell (by have := Hs2.out; simp; omega)).trans (HX.out 1 _ rfl)
        have X2 : ∀ p : BelowBy w2.heap.size w2, p.x.cell? ⟨wr.heap.size, 2, none⟩ = some (.int .i64 c.tk) := fun p => (p.h.cell (by have := Hs2.out; simp; omega)).trans (HX.out 2 _ rfl)
        have X3 : ∀ p : BelowBy w2.heap.size w2, p.x.cell? ⟨wr.heap.size, 3, none⟩ = some (.int .i64 c.tm) := fun p => (p.h.cell (by have := Hs2.out; simp; omega)).trans (HX.out 3 _ rfl)
        have X4 : ∀ p : BelowBy w2.heap.size w2, p.x.cell? ⟨wr.heap.size, 4, none⟩ = some (.bool c.nl) := fun p => (p.h.cell (by have := Hs2.out; simp; omega)).trans (HX.out 4 _ rfl)
        have X5 : ∀ p : BelowBy w2.heap.size w2, p.x.cell? ⟨wr.heap.size, 5, none⟩ = some (.int .i64 c.dk) := fun p => (p.h.cell (by have := Hs2.out; simp; omega)).trans (HX.out 5 _ rfl)
        have X6 : ∀ p : BelowBy w2.heap.size w2, p.x.cell? ⟨wr.heap.size, 6, none⟩ = some (.int .i64 c.dn) := fun p => (p.h.cell (by have := Hs2.out; simp; omega)).trans (HX.out 6 _ rfl)
        have X7 : ∀ p : BelowBy w2.heap.size w2, p.x.cell? ⟨wr.heap.size, 7, none⟩ = some (.string c.ds) := fun p => (p.h.cell (by have := Hs2.out; simp; omega)).trans (HX.out 7 _ rfl)
        have F0 : ∀ p : BelowBy w2.heap.size w2, p.x.cell? ⟨b2, off2 + k * 3, none⟩ = some (.int .i64 v.1) := fun p => (p.h.cell (by have := Hs2.out; have := Hb2lt.out; simp; omega)).trans ((Hb2.out.cell (p := ⟨b2, off2 + k * 3, none⟩) Hb2lt.out).trans f0)
        have F1 : ∀ p : BelowBy w2.heap.size w2, p.x.cell? ⟨b2, off2 + k * 3 + 1, none⟩ = some (.int .i64 v.2.1) := fun p => (p.h.cell (by have := Hs2.out; have := Hb2lt.out; simp; omega)).trans ((Hb2.out.cell (p := ⟨b2, off2 + k * 3 + 1, none⟩) Hb2lt.out).trans f1)
        have F2 : ∀ p : BelowBy w2.heap.size w2, p.x.cell? ⟨b2, off2 + k * 3 + 2, none⟩ = some (.string v.2.2) := fun p => (p.h.cell (by have := Hs2.out; have := Hb2lt.out; simp; omega)).trans ((Hb2.out.cell (p := ⟨b2, off2 + k * 3 + 2, none⟩) Hb2lt.out).trans f2)
        by_cases hz : celE c v = 0
        · have Hz := Lib.hid hz
          replace HCV : Hid (∀ w, UTab w → Calls Tryd.prog 67 #[CV c, VV v.1 v.2.1 v.2.2] w fun e w' => e = .returned (.int .i64 0) ∧ Below w.heap.size w w') := fun w ht => by
            have := HCV.out w ht
            rw [show celE c (v.1, v.2.1, v.2.2) = 0 from hz] at this
            exact this
          have Hall : Hid (∀ j d u, j < k + 1 → t.cols[j]? = some d → vs[j]? = some u → celE d u = 0) := fun j d u hj h1 h2 => by
            by_cases e : j = k
            · subst e
              rw [Hc.out] at h1; cases h1
              rw [Hv.out] at h2; cases h2
              exact Hz.out
            · exact hall.out j d u (by omega) h1 h2
          clear hz
          go_wp2_with fail
          rw [Hw2.out]
          refine wp_region_below w2.heap.size (by kernel_rfl) (by kernel_rfl) ?_
          repeat (
            with_reducible refine wpQuiet_step (fun K hK => ?_)
            go_simp
            refine hK _ ?_
            clear hK K)
          with_reducible refine wpQuiet_step (fun K hK => ?_)
          go_simp
          apply Exists.intro
          refine ⟨fun p => ?_, hK _ ?_⟩
          exact (HCV.out _ (HT2.out.below p.h (Nat.le_refl _))).mono fun e w5 ⟨he, hb⟩ => ⟨he, p.step (Nat.le_refl _) hb⟩
          clear hK K
          repeat (
            with_reducible refine wpQuiet_step (fun K hK => ?_)
            go_simp
            refine hK _ ?_
            clear hK K)
          refine wpQuiet_nil ?_
          rintro _ ⟨p, rfl⟩
          go_wp2_with fail
          go_roundw
          case rel => exact ⟨k + 1, by omega, by go_num, Hall, bthen (bthen hb.out Hb2.out) p.h⟩
          case measure => simp [intOf]; omega
        · obtain ⟨z, hzz⟩ : ∃ z, celE c v = z := ⟨_, rfl⟩
          have He2 : Hid (rowT t vs = z) := by show _ = _; rw [He.out, ← hzz]; exact rowE_stop hall.out Hc.out Hv.out hz
          replace HCV : Hid (∀ w, UTab w → Calls Tryd.prog 67 #[CV c, VV v.1 v.2.1 v.2.2] w fun e w' => e = .returned (.int .i64 z) ∧ Below w.heap.size w w') := fun w ht => by
            have := HCV.out w ht
            rw [show celE c (v.1, v.2.1, v.2.2) = z from hzz] at this
            exact this
          have hz0 : (z == 0) = false := by rw [← hzz]; simpa using hz
          have hz1 : (z != 0) = true := by rw [neq_int, hz0]; rfl
          clear hz hzz
          go_wp2_with fail
          rw [Hw2.out]
          refine wp_region_below w2.heap.size (by kernel_rfl) (by kernel_rfl) ?_
          repeat (
            with_reducible refine wpQuiet_step (fun K hK => ?_)
            go_simp
            refine hK _ ?_
            clear hK K)
          with_reducible refine wpQuiet_step (fun K hK => ?_)
          go_simp
          apply Exists.intro
          refine ⟨fun p => ?_, hK _ ?_⟩
          exact (HCV.out _ (HT2.out.below p.h (Nat.le_refl _))).mono fun e w5 ⟨he, hb⟩ => ⟨he, p.step (Nat.le_refl _) hb⟩
          clear hK K
          repeat (
            with_reducible refine wpQuiet_step (fun K hK => ?_)
            go_simp
            refine hK _ ?_
            clear hK K)
          refine wpQuiet_nil ?_
          rintro _ ⟨p, rfl⟩
          go_wp2_with fail
          go_ret
          exact ⟨by rw [He2.out]; rfl, bthen (bthen Hbw.out Hb2.out) p.h⟩
      · have He2 : Hid (rowT t vs = 0) := by
          show _ = _
          rw [He.out]
          exact rowE_done fun j c v h1 h2 => hall.out j c v (by have := (List.getElem?_eq_some_iff.1 h1).1; omega) h1 h2
        go_wp2_with fail
        go_ret
        exact ⟨by rw [He2.out]; rfl, Hbw.out⟩
  · have hneq : ((vs.length : Int) != (t.cols.length : Int)) = true := by simp; omega
    have heql : ((vs.length : Int) == (t.cols.length : Int)) = false := by simp; omega
    have He := Lib.hid (rowT_len hr hll)
    clear hr hll
    go_enter Tryd.func32, Tryd.ntmps32
    go_wp2_with fail
    refine HQ.out.mono ?_
    rintro e w1 ⟨rfl, hb1⟩
    rw [Hw0.out] at hb1
    have Hb1 := Lib.hid (bthen Hb0.out hb1)
    obtain ⟨c0, c1, c2, c3, c4⟩ := (HB.out.below hb1 (by have := Hs0.out; omega)).tab
    clear hb1
    go_wp2_with fail
    go_ret
    exact ⟨by rw [He.out]; rfl, Hb1.out⟩
end Go.Proofs.YtmcgcanpaffggaaDoor

/-
  Rows of values of the call's own: a whole row appended, a value stored in its place.
-/
namespace Go.Proofs.YtmcgcanpaffggaaDoor
open Go.RowKit

theorem P3_length (l : List Vb) : (P3 l).length = l.length * 3 := by
  induction l with
  | nil => rfl
  | cons x r ih => simp [P3, ih]; omega
theorem P3_all : ∀ {vs : List Vb} {Q : Nat → Value → Prop}, (∀ i t, vs[i]? = some t → Q (i * 3) (.int .i64 t.1) ∧ Q (i * 3 + 1) (.int .i64 t.2.1) ∧ Q (i * 3 + 2) (.string t.2.2)) → ∀ j u, (P3 vs)[j]? = some u → Q j u
  | [], _, _, j, u, hj => by simp [P3] at hj
  | x :: r, Q, h, 0, u, hj => by simp [P3] at hj; subst hj; exact (h 0 x rfl).1
  | x :: r, Q, h, 1, u, hj => by simp [P3] at hj; subst hj; exact (h 0 x rfl).2.1
  | x :: r, Q, h, 2, u, hj => by simp [P3] at hj; subst hj; exact (h 0 x rfl).2.2
  | x :: r, Q, h, j + 3, u, hj => by
    refine P3_all (vs := r) (Q := fun j u => Q (j + 3) u) (fun i t hi => ?_) j u (by simpa [P3] using hj)
    have := h (i + 1) t (by simpa using hi)
    rw [show (i + 1) * 3 = i * 3 + 3 by omega, show i * 3 + 3 + 1 = i * 3 + 1 + 3 by omega, show i * 3 + 3 + 2 = i * 3 + 2 + 3 by omega] at this
    exact this
theorem P3_set : ∀ (l : List Vb) (k : Nat) (t : Vb), P3 (l.set k t) = (((P3 l).set (k * 3) (.int .i64 t.1)).set (k * 3 + 1) (.int .i64 t.2.1)).set (k * 3 + 2) (.string t.2.2)
  | [], k, t => by simp [P3]
  | x :: r, 0, t => by simp [P3]
  | x :: r, k + 1, t => by
    rw [show (k + 1) * 3 = k * 3 + 1 + 1 + 1 by omega, show k * 3 + 1 + 1 + 1 + 1 = k * 3 + 1 + 1 + 1 + 1 by omega, show k * 3 + 1 + 1 + 1 + 2 = k * 3 + 2 + 1 + 1 + 1 by omega]
    simp [P3, P3_set r k t]
/-- a value stored in its place -/
theorem OwnV.set3 {w : World} {base g cap : Nat} {l : List Vb} (h : OwnV w base (.slice (some ⟨g, 0, none⟩) l.length cap) l) (k : Nat) (t : Vb) :
    OwnV (((w.setCell ⟨g, k * 3, none⟩ (.int .i64 t.1)).setCell ⟨g, k * 3 + 1, none⟩ (.int .i64 t.2.1)).setCell ⟨g, k * 3 + 2, none⟩ (.string t.2.2)) base (.slice (some ⟨g, 0, none⟩) l.length cap) (l.set k t) := by
  unfold OwnV
  rw [List.length_set, P3_set]
  exact (World.ownsRow.stored (World.ownsRow.stored (World.ownsRow.stored h (k * 3) _).1 (k * 3 + 1) _).1 (k * 3 + 2) _).1
/-- the shape of a row of the call's own that is not empty -/
theorem OwnV.shape {w : World} {base : Nat} {v : Value} {l : List Vb} (h : OwnV w base v l) (hl : 0 < l.length) : ∃ g cap, v = .slice (some ⟨g, 0, none⟩) l.length cap ∧ base ≤ g ∧ g < w.heap.size ∧ l.length ≤ cap := by
  rcases h.2 with ⟨_, h0⟩ | ⟨g, cap, cur, rfl, hb, hg, hc, _⟩
  · omega
  · exact ⟨g, cap, rfl, hb, (Array.getElem?_eq_some_iff.1 hg).1, hc⟩
theorem OwnV.lit0 (w : World) (base : Nat) (hb : base ≤ w.heap.size) : OwnV (w.alloc (.cells #[] 35)) base (.slice (some ⟨w.heap.size, 0, none⟩) 0 0) [] :=
  World.ownsRow_lit w #[] 0 hb (by unfold maxLen; omega) rfl
theorem run_append_vals {w : World} (ty : TypeId) (base : Nat) (v : Value) (l : List Vb) (A : Option Addr) (c : Nat) (vs : List Vb) (hown : OwnV w base v l) (hA : A = none → c = 0) (hvs : ValsAt w w.heap.size A vs)
    (hlen : l.length + vs.length < 1099511627776) (hbase : base ≤ w.heap.size) :
    ∃ v' w', (Builtin.append_ #[52, 52] ty #[v, .slice A vs.length c]).run Tryd.prog w = .ok v' w' ∧ OwnV w' base v' (l ++ vs) ∧ w.grownBy w' v.ownBlock := by
  obtain ⟨i0, hi, hz0, hz1, hz2⟩ := info_parts infoV
  cases A with
  | none =>
    have hl : vs = [] := by
      cases vs with
      | nil => rfl
      | cons y r =>
        obtain ⟨_, _, h3, _⟩ := hvs (by simp)
        cases h3
    subst hl
    obtain rfl := hA rfl
    exact ⟨v, w, run_append_owned_none w base 52 ty 35 i0 3 Tryd.underlying52 hi v l.length (P3 l) hown, by rw [List.append_nil]; exact hown, ⟨rfl, rfl, rfl, Nat.le_refl _, fun _ _ _ => rfl⟩⟩
  | some ad =>
    obtain ⟨v', w', hrun, h1, h2, _⟩ := run_append_own (P := Tryd.prog) w base 52 ty 35 i0 (.agg #[.int .i64 0, .int .i64 0, .string ByteArray.empty]) 3 32 Tryd.underlying52 hi hz0 hz1 hz2 rfl (by decide) v l.length (P3 l) hown ad vs.length c (P3 vs) (P3_length vs)
      (P3_all fun i t hi => by
        obtain ⟨b, off, h3, _, h5⟩ := hvs (by have := (List.getElem?_eq_some_iff.1 hi).1; omega)
        cases h3
        have := h5 i t hi
        simp only [Addr.add_lit, ← Nat.add_assoc]
        exact this)
      (P3_one vs) (by unfold maxLen; omega) (by omega) hbase
    refine ⟨v', w', hrun, ?_, h2⟩
    unfold OwnV
    rw [P3_append, List.length_append]
    exact h1
theorem wpList_append_vals {w : World} {ops : Array Oper} {rest : List Oper} {o : Oper} {a : Act} {Q : Exit → Act → World → Prop} (hgd : o.guard = none) (s x : Operand)
    (ho : o.op = .call { callee := .builtin .append, args := #[s, x], argTypes := #[52, 52] })
    (base : Nat) (v : Value) (l : List Vb) (A : Option Addr) (m c : Nat) (vs : List Vb)
    (hown : OwnV w base v l) (hs : a.eval s = v) (hx : a.eval x = .slice A m c) (hm : m = vs.length) (hA : A = none → c = 0) (hvs : ValsAt w w.heap.size A vs) (hlen : l.length + vs.length < 1099511627776) (hbase : base ≤ w.heap.size)
    (h : ∀ v' w', OwnV w' base v' (l ++ vs) → Below base w w' → wpList Tryd.prog ops Q rest (a.put o.dst v') w') :
    wpList Tryd.prog ops Q (o :: rest) a w := by
  subst hm
  refine wpList_plain hgd fun K hK => ?_
  obtain ⟨v', w', hr, h2, h3⟩ := run_append_vals o.type base v l A c vs hown hA hvs hlen hbase
  unfold Oper.wp execOp
  simp only [ho, resolve, invoke, builtin, Sem.run_bind, Sem.run_pure, Result.andThen_ok, List.map_toArray, List.map_cons, List.map_nil, hs, hx, hr]
  exact hK _ _ (h v' w' h2 ((Below.refl base w).grown h3 hbase (fun k hk => ((World.ownsRow.lt hown) k hk).1)))
theorem step_append_vals {w : World} {ops : Array Oper} {o : Oper} {a : Act} {K : Act → World → Prop} {Q : Exit → Act → World → Prop} {E : Prop} (hgd : o.guard = none) (s x : Operand)
    (ho : o.op = .call { callee := .builtin .append, args := #[s, x], argTypes := #[52, 52] })
    (base : Nat) (v : Value) (l : List Vb) (A : Option Addr) (m c : Nat) (vs : List Vb)
    (hown : OwnV w base v l) (hs : a.eval s = v) (hx : a.eval x = .slice A m c) (hm : m = vs.length) (hA : A = none → c = 0) (hvs : ValsAt w w.heap.size A vs) (hlen : l.length + vs.length < 1099511627776) (hbase : base ≤ w.heap.size)
    (h : ∀ v' w', OwnV w' base v' (l ++ vs) → Below base w w' → K (a.put o.dst v') w') :
    if Region.wanted o (yielded ops a.tmps) = true then Oper.wp Tryd.prog o a w K Q else E := by
  subst hm
  have hw : Region.wanted o (yielded ops a.tmps) = true := by simp [Region.wanted, hgd]
  rw [if_pos hw]
  obtain ⟨v', w', hr, h2, h3⟩ := run_append_vals o.type base v l A c vs hown hA hvs hlen hbase
  unfold Oper.wp
  simp [execOp, ho, resolve, invoke, builtin, hs, hx, hr, Result.andThen]
  exact h v' w' h2 ((Below.refl base w).grown h3 hbase (fun k hk => ((World.ownsRow.lt hown) k hk).1))
end Go.Proofs.YtmcgcanpaffggaaDoor

/-
  Contracts of slices.Clone at values and of package schema's defaults.
-/
namespace Go.Proofs.YtmcgcanpaffggaaDoor
open Go.RowKit

theorem ValsAt.nil {w : World} {B : Nat} {vs : List Vb} (h : ValsAt w B none vs) : vs = [] := by
  cases vs with
  | nil => rfl
  | cons y r =>
    obtain ⟨_, _, h3, _⟩ := h (by simp)
    cases h3
set_option maxRecDepth 100000 in
theorem vclone_any (A : Option Addr) (cp : Nat) (vs : List Vb) (w : World) (hA : ValsAt w w.heap.size A vs) (hn : A = none → cp = 0) (hl : vs.length ≤ 1000000) :
    Calls Tryd.prog 86 #[.slice A vs.length cp] w fun e w' => ∃ v, e = .returned v ∧ OwnV w' w.heap.size v vs ∧ Below w.heap.size w w' := by
  have q : ∀ (w : World) (a : Option Addr) (n c n' c' : Nat), (binOp .eql 52 (.slice a n c) (.slice none n' c')).run Tryd.prog w = .ok (.bool a.isNone) w := fun w a n c n' c' => Lib.run_eql_slice_nil w _ _ a n c n' c' Tryd.underlying52
  cases A with
  | none =>
    obtain rfl := hA.nil
    obtain rfl := hn rfl
    clear hA hn
    go_enter Tryd.func86, Tryd.ntmps86
    go_wp2_with fail
    go_ret
    exact ⟨_, rfl, OwnV.nil _ _, Below.refl _ _⟩
  | some ad =>
    have HA := Lib.hid (hA.to ((Below.refl w.heap.size w).alloc (Nat.le_refl _) (.cells #[] 35))); clear hA hn
    have HO := Lib.hid (OwnV.lit0 w w.heap.size (Nat.le_refl _))
    go_enter Tryd.func86, Tryd.ntmps86
    go_wp2_with (at_builtin; refine wpList_append_vals rfl _ _ rfl w.heap.size _ [] (some ad) _ cp vs HO.out rfl rfl rfl (fun h => by cases h) HA.out (by simp; omega) (by simp) ?_; intro v1 w1 ho1 hb1)
    go_ret
    exact ⟨_, rfl, ho1, ((Below.refl w.heap.size w).alloc (Nat.le_refl _) _).trans hb1⟩
set_option maxRecDepth 100000 in
set_option maxHeartbeats 1600000 in
theorem defs_any (t : Tb) (w : World) (hA : TabAt w w.heap.size t) (hlen : t.cols.length ≤ 1000000) :
    Calls Tryd.prog 69 #[TV t] w fun e w' => ∃ v, e = .returned v ∧ OwnV w' w.heap.size v (t.cols.map Cb.dv) ∧ Below w.heap.size w w' := by
  have HA := Lib.hid hA; clear hA
  unfold TabAt at HA
  unfold TV
  generalize t.A = A at HA
  generalize t.cols = cols at HA hlen
  go_enter Tryd.func69, Tryd.ntmps69
  go_wp2_with fail
  have hb0 := Lib.hid (below_one w (.cells #[.int .i64 t.id, .string t.nm, .int .i64 t.key, .int .i64 t.nx, .slice A cols.length t.cap] 29))
  go_loopw [3, 9] (fun v i wr => ∃ k : Nat, k ≤ cols.length ∧ i = .int .i64 k ∧ Hid (OwnV wr w.heap.size v ((cols.map Cb.dv).take k)) ∧ Hid (Below w.heap.size w wr)) (fun _ i _ => cols.length - (intOf i).toNat)
  case atStart => exact ⟨0, by omega, rfl, OwnV.nil _ _, hb0.out⟩
  case round =>
    obtain ⟨k, hk, rfl, ho, hb⟩ := hrel
    by_cases hlt : k < cols.length
    · obtain ⟨c, hc⟩ : ∃ c, cols[k]? = some c := ⟨cols[k], by simp [hlt]⟩
      have Hn : Hid ((cols.map Cb.dv).take (k + 1) = (cols.map Cb.dv).take k ++ [c.dv]) := by
        show _ = _
        rw [List.take_add_one, List.getElem?_map, hc]; rfl
      have Hlen : Hid (((cols.map Cb.dv).take k).length < 1000000) := by
        show _ < _
        rw [List.length_take, List.length_map]; omega
      obtain ⟨b, off, rfl, hbB, d0, d1, d2, d3, d4, d5, d6, d7⟩ := ColsAt.get (RowAt.below HA.out hb.out) k c hc
      clear hc
      have HO := Lib.hid (ho.out.alloc (.cells #[.int .i64 c.id, .string c.nm, .int .i64 c.tk, .int .i64 c.tm, .bool c.nl, .int .i64 c.dk, .int .i64 c.dn, .string c.ds] 37))
      have Hb1 := Lib.hid (bthen hb.out (below_one wr (.cells #[.int .i64 c.id, .string c.nm, .int .i64 c.tk, .int .i64 c.tm, .bool c.nl, .int .i64 c.dk, .int .i64 c.dn, .string c.ds] 37)))
      have Hs := Lib.hid hb.out.size
      go_wp2_with (at_builtin; refine wpList_append_val rfl _ _ rfl w.heap.size _ ((cols.map Cb.dv).take k) c.dk c.dn c.ds _ HO.out rfl rfl (by simp) Hlen.out (by have := Hs.out; simp; omega) ?_; intro v1 w1 ho1 hb1)
      have HO1 : Hid (OwnV w1 w.heap.size v1 ((cols.map Cb.dv).take (k + 1))) := by show OwnV _ _ _ _; rw [Hn.out]; exact ho1
      have Hb2 := Lib.hid (Hb1.out.trans hb1)
      clear ho1 hb1
      go_roundw
      case rel => exact ⟨k + 1, by omega, by go_num, HO1.out, Hb2.out⟩
      case measure => simp [intOf]; omega
    · have Hn : Hid ((cols.map Cb.dv).take k = cols.map Cb.dv) := List.take_of_length_le (by rw [List.length_map]; omega)
      rw [Hn.out] at ho
      go_wp2_with fail
      go_ret
      exact ⟨_, rfl, ho.out, hb.out⟩
end Go.Proofs.YtmcgcanpaffggaaDoor

/-
  Contract of package schema's replace.
-/
namespace Go.Proofs.YtmcgcanpaffggaaDoor
open Go.RowKit

theorem box_fld (w : World) (f : Fb) : ∃ w0, w.alloc (.cells #[.string f.nm, .int .i64 f.k, .int .i64 f.n, .string f.s] 76) = w0 ∧ Below w.heap.size w w0 ∧ BlkN w0 w.heap.size (fF f) ∧ w0.heap.size = w.heap.size + 1 :=
  ⟨_, rfl, (Below.refl _ _).alloc (Nat.le_refl _) _, BlkN.new w _ (fF f) _ rfl, by simp⟩
theorem replE_limit {t : Tb} {vs : List Vb} {l : List Fb} {fixed : Int} (h : 10 < l.length) : replE t vs l fixed = 3 ∧ replR t vs l fixed = [] := by
  have : replE t vs l fixed = 3 := by unfold replE; rw [if_pos h]
  exact ⟨this, by unfold replR; rw [this]; rfl⟩
theorem replE_bad {t : Tb} {vs : List Vb} {l : List Fb} {fixed : Int} {e : Int} (h : ¬ 10 < l.length) (he : fldsE t l fixed = e) (h0 : e ≠ 0) : replE t vs l fixed = e ∧ replR t vs l fixed = [] := by
  have : replE t vs l fixed = e := by unfold replE; rw [if_neg h, he, if_neg h0]
  exact ⟨this, by unfold replR; rw [this, if_neg h0]⟩
theorem replE_row {t : Tb} {vs : List Vb} {l : List Fb} {fixed : Int} (h : ¬ 10 < l.length) (he : fldsE t l fixed = 0) : replE t vs l fixed = rowT t (updR t vs l) := by
  unfold replE; rw [if_neg h, if_pos he]
theorem fldE_13 {t : Tb} {l : List Fb} {fixed : Int} {i : Nat} {f : Fb} (h : colI t f.nm = none) : fldE t l fixed i f = 13 := by unfold fldE; rw [h]; rfl
theorem fldE_14 {t : Tb} {l : List Fb} {fixed : Int} {i q : Nat} {f : Fb} (h : colI t f.nm = some q) (h2 : ((l.take i).findIdx? fun g => eqS g.nm f.nm).isSome = true) : fldE t l fixed i f = 14 := by
  unfold fldE; rw [h, if_pos (show (some q).isSome = true from rfl), if_pos h2]
theorem fldE_15 {t : Tb} {l : List Fb} {fixed : Int} {i q : Nat} {f : Fb} (h : colI t f.nm = some q) (h2 : ((l.take i).findIdx? fun g => eqS g.nm f.nm).isSome = false) (h3 : (q : Int) = fixed) : fldE t l fixed i f = 15 := by
  unfold fldE; rw [h, if_pos (show (some q).isSome = true from rfl), if_neg (by rw [h2]; simp), if_pos (by exact h3)]
theorem fldE_0 {t : Tb} {l : List Fb} {fixed : Int} {i q : Nat} {f : Fb} (h : colI t f.nm = some q) (h2 : ((l.take i).findIdx? fun g => eqS g.nm f.nm).isSome = false) (h3 : (q : Int) ≠ fixed) : fldE t l fixed i f = 0 := by
  unfold fldE; rw [h, if_pos (show (some q).isSome = true from rfl), if_neg (by rw [h2]; simp), if_neg (by exact h3)]
theorem fldE_more {t : Tb} {l : List Fb} {fixed : Int} {k : Nat} {x : Fb} (h : ∀ j g, l[j]? = some g → j < k → fldE t l fixed j g = 0) (hx : l[k]? = some x) (h0 : fldE t l fixed k x = 0) : ∀ j g, l[j]? = some g → j < k + 1 → fldE t l fixed j g = 0 := fun j g hj hk => by
  by_cases e : j = k
  · subst e
    rw [hx] at hj; cases hj
    exact h0
  · exact h j g hj (by omega)
theorem updR_take {t : Tb} {vs : List Vb} {l : List Fb} {k q : Nat} {x : Fb} (hx : l[k]? = some x) (h : colI t x.nm = some q) : updR t vs (l.take (k + 1)) = (updR t vs (l.take k)).set q x.v := by
  obtain ⟨h1, rfl⟩ := List.getElem?_eq_some_iff.1 hx
  rw [List.take_succ_eq_append_getElem h1, updR_snoc, h]; rfl
theorem OwnV.shape' {w : World} {base n : Nat} {v : Value} {l : List Vb} (h : OwnV w base v l) (hn : l.length = n) (hl : 0 < n) : ∃ g cap, v = .slice (some ⟨g, 0, none⟩) n cap ∧ base ≤ g ∧ g < w.heap.size ∧ n ≤ cap := by
  subst hn; exact h.shape hl
theorem OwnV.mono {w : World} {base base' : Nat} {v : Value} {l : List Vb} (h : OwnV w base v l) (hb : base' ≤ base) : OwnV w base' v l :=
  ⟨h.1, h.2.imp id fun ⟨g, cap, cur, h1, h2, h3⟩ => ⟨g, cap, cur, h1, Nat.le_trans hb h2, h3⟩⟩
theorem colI_lt {t : Tb} {s : ByteArray} {q : Nat} (h : colI t s = some q) : q < t.cols.length := find_lt h

set_option maxRecDepth 100000 in
set_option maxHeartbeats 4000000 in
theorem repl_any (t : Tb) (A : Option Addr) (cp : Nat) (vs : List Vb) (Al : Option Addr) (cl : Nat) (l : List Fb) (fixed : Int) (w : World) (ht : UTab w) (hw : WfT t) (hA : TabAt w w.heap.size t) (hR : ValsAt w w.heap.size A vs)
    (hn : A = none → cp = 0) (hvl : vs.length = t.cols.length) (hF : FldsAt w w.heap.size Al l) (hcl : l.length ≤ cl) :
    Calls Tryd.prog 68 #[TV t, .slice A vs.length cp, .slice Al l.length cl, .int .i64 fixed] w fun e w' => ∃ v, e = .returned (.tuple #[v, .int .i64 (replE t vs l fixed)]) ∧ OwnV w' w.heap.size v (replR t vs l fixed) ∧ Below w.heap.size w w' := by
  obtain ⟨w0, hw0, hb0, hB, hs0⟩ := box_tab w t
  have Hw0 := Lib.hid hw0; clear hw0
  have Hb0 := Lib.hid hb0
  have HA := Lib.hid (RowAt.to hA hb0); clear hA
  have HR := Lib.hid (hR.to hb0); clear hR
  have HF := Lib.hid (RowAt.to hF hb0); clear hF
  have HT := Lib.hid (ht.below hb0 (Nat.le_refl _)); clear ht hb0
  have HB := Lib.hid hB; clear hB
  have Hs0 := Lib.hid hs0; clear hs0
  have HW := Lib.hid hw
  have hlen := hw.2.1; clear hw
  have Hvl := Lib.hid hvl
  have hvm : vs.length ≤ 1000000 := by omega
  clear hvl
  by_cases hlim : 10 < l.length
  · have d : decide (10 < (l.length : Int)) = true := by simp; omega
    have He := Lib.hid (replE_limit (t := t) (vs := vs) (fixed := fixed) hlim)
    clear hlim
    go_enter Tryd.func68, Tryd.ntmps68
    go_wp2_with fail
    rw [Hw0.out]
    go_ret2
    exact ⟨_, by rw [He.out.1]; rfl, by rw [He.out.2]; exact OwnV.nil _ _, Hb0.out⟩
  have d : decide (10 < (l.length : Int)) = false := by simp; omega
  have HCl := Lib.hid (vclone_any A cp vs w0 HR.out hn (by omega))
  clear hn
  rw [← Hw0.out] at HCl
  go_enter Tryd.func68, Tryd.ntmps68
  go_wp2_with fail
  refine HCl.out.mono ?_
  rintro e w1 ⟨v, rfl, ho, hb1⟩
  rw [Hw0.out] at hb1 ho
  have HO := Lib.hid ho
  have Hb1 := Lib.hid hb1
  clear ho hb1 HCl
  go_wp2_with fail
  clear d
  go_loopw [23] (fun i wr => ∃ k : Nat, k ≤ l.length ∧ i = .int .i64 k ∧ Hid (OwnV wr w0.heap.size v (updR t vs (l.take k))) ∧ Hid (∀ j g, l[j]? = some g → j < k → fldE t l fixed j g = 0) ∧ Hid (Below w0.heap.size w0 wr)) (fun i _ => l.length - (intOf i).toNat)
  case atStart => exact ⟨0, by omega, rfl, HO.out, fun j g _ h => absurd h (by omega), Hb1.out⟩
  case round =>
    obtain ⟨k, hk, rfl, ho, hall, hb⟩ := hrel
    have Hbw := Lib.hid (bthen Hb0.out hb.out)
    obtain ⟨c0, c1, c2, c3, c4⟩ := (HB.out.below hb.out (show w.heap.size < w0.heap.size by have := Hs0.out; omega)).tab
    by_cases hlt : k < l.length
    · obtain ⟨x, hx⟩ : ∃ x, l[k]? = some x := ⟨l[k], by simp [hlt]⟩
      have Hx := Lib.hid hx
      obtain ⟨b, off, rfl, hbB, d0, d1, d2, d3⟩ := FldsAt.get (RowAt.below HF.out hb.out) k x hx
      clear hx
      obtain ⟨w2, hw2, hb2, hX, hs2⟩ := box_fld wr x
      have Hw2 := Lib.hid hw2; clear hw2
      have Hs2 := Lib.hid hs2; clear hs2
      have HX := Lib.hid hX; clear hX
      have Hb2 := Lib.hid hb2
      have HO2 := Lib.hid (ho.out.below (show Below wr.heap.size wr w2 from hb2))
      have Hbw2 := Lib.hid (bthen hb.out hb2); clear hb2
      have k0 := fun o => keep_alloc c0 o
      have k1 := fun o => keep_alloc c1 o
      have k2 := fun o => keep_alloc c2 o
      have k3 := fun o => keep_alloc c3 o
      have k4 := fun o => keep_alloc c4 o
      clear c0 c1 c2 c3 c4
      have HCo := Lib.hid (scol_any t x.nm w2 (RowAt.to HA.out Hbw2.out) hlen)
      rw [← Hw2.out] at HCo
      cases hco : colI t x.nm with
      | none =>
        have He := Lib.hid (replE_bad (vs := vs) hlim (fldsE_stop hall.out Hx.out (by rw [fldE_13 hco]; decide)) (by rw [fldE_13 hco]; decide))
        rw [fldE_13 hco] at He
        rw [hco, show fstV none = .tuple #[.int .i64 0, .bool false] from rfl] at HCo
        clear hco
        go_wp2_with fail
        refine HCo.out.mono ?_
        rintro e w3 ⟨rfl, hb3⟩
        rw [Hw2.out] at hb3
        have Hb3 := Lib.hid (bthen (bthen Hb0.out Hbw2.out) hb3); clear hb3
        go_wp2_with fail
        go_ret2
        exact ⟨_, by rw [He.out.1]; rfl, by rw [He.out.2]; exact OwnV.nil _ _, Hb3.out⟩
      | some q =>
        have Hq := Lib.hid hco
        have hql := colI_lt hco
        rw [hco, show fstV (some q) = .tuple #[.int .i64 (q : Int), .bool true] from rfl] at HCo
        clear hco
        have Hul : Hid ((updR t vs (l.take k)).length = t.cols.length) := by show _ = _; rw [updR_length, Hvl.out]
        obtain ⟨g, cap, rfl, hg1, hg2, hg3⟩ := ho.out.shape' Hul.out (by omega)
        go_wp2_with fail
        refine HCo.out.mono ?_
        rintro e w3 ⟨rfl, hb3⟩
        rw [Hw2.out] at hb3
        have Hb3 := Lib.hid hb3
        have HO3 := Lib.hid (HO2.out.below hb3)
        have HX3 := Lib.hid (HX.out.below hb3 (by have := Hs2.out; omega))
        have Hbw3 := Lib.hid (bthen Hbw2.out hb3)
        have Hs3 : Hid (wr.heap.size < w3.heap.size) := by show _ < _; have := hb3.size; have := Hs2.out; omega
        clear hb3
        clear k0 k1 k2 k3 k4
        go_wp2_with fail
        have hlk : (l.take k).length = k := by rw [List.length_take]; omega
        have HH : Hid (∀ w', Below w3.heap.size w3 w' → Calls Tryd.prog 87 #[.slice (some ⟨b, off, none⟩) k cl, .string x.nm] w' fun e w2 => e = .returned (.bool ((l.take k).findIdx? fun g => eqS g.nm x.nm).isSome) ∧ Below w'.heap.size w' w2) := fun w' hb' => by
          have := hasF_any (some ⟨b, off, none⟩) cl (l.take k) x.nm w' (RowAt.take (RowAt.to (RowAt.to HF.out Hbw3.out) hb') k) (by omega)
          rwa [hlk] at this
        clear hlk
        have hne : Nonempty (BelowBy w3.heap.size w3) := ⟨⟨w3, Below.refl _ _⟩⟩
        have X0 : ∀ p : BelowBy w3.heap.size w3, p.x.cell? ⟨wr.heap.size, 0, none⟩ = some (.string x.nm) := fun p => (p.h.cell (by have := Hs3.out; simp; omega)).trans (HX3.out 0 _ rfl)
        have hk0 : (0 : Int) ≤ (k : Int) := by omega
        have hkc : (k : Int) ≤ (cl : Int) := by omega
        cases hf : ((l.take k).findIdx? fun g => eqS g.nm x.nm).isSome
        · by_cases hfx : (q : Int) = fixed
          · have hf' := hf
            rw [hf] at HH
            clear hf
            have He := Lib.hid (replE_bad (vs := vs) hlim (fldsE_stop hall.out Hx.out (by rw [fldE_15 Hq.out hf' hfx]; decide)) (by rw [fldE_15 Hq.out hf' hfx]; decide))
            rw [fldE_15 Hq.out hf' hfx] at He
            have dq : ((q : Int) == fixed) = true := by simpa using hfx
            clear hf' hfx
            refine wp_region_below w3.heap.size (by kernel_rfl) (by kernel_rfl) ?_
            repeat (
              with_reducible refine wpQuiet_step (fun K hK => ?_)
              go_simp
              refine hK _ ?_
              clear hK K)
            with_reducible refine wpQuiet_step (fun K hK => ?_)
            go_simp
            apply Exists.intro
            refine ⟨fun p => ?_, hK _ ?_⟩
            exact (HH.out _ p.h).mono fun e w5 ⟨he, hb⟩ => ⟨he, p.step (Nat.le_refl _) hb⟩
            clear hK K
            repeat (
              with_reducible refine wpQuiet_step (fun K hK => ?_)
              go_simp
              refine hK _ ?_
              clear hK K)
            refine wpQuiet_nil ?_
            rintro _ ⟨p, rfl⟩
            go_wp2_with fail
            go_ret2
            exact ⟨_, by rw [He.out.1]; rfl, by rw [He.out.2]; exact OwnV.nil _ _, bthen (bthen Hb0.out Hbw3.out) p.h⟩
          · have hf' := hf
            rw [hf] at HH
            clear hf
            have Hall := Lib.hid (fldE_more hall.out Hx.out (fldE_0 Hq.out hf' hfx))
            have dq : ((q : Int) == fixed) = false := by simpa using hfx
            have Hup := Lib.hid (updR_take (vs := vs) Hx.out Hq.out)
            clear hf' hfx
            refine wp_region_below w3.heap.size (by kernel_rfl) (by kernel_rfl) ?_
            repeat (
              with_reducible refine wpQuiet_step (fun K hK => ?_)
              go_simp
              refine hK _ ?_
              clear hK K)
            with_reducible refine wpQuiet_step (fun K hK => ?_)
            go_simp
            apply Exists.intro
            refine ⟨fun p => ?_, hK _ ?_⟩
            exact (HH.out _ p.h).mono fun e w5 ⟨he, hb⟩ => ⟨he, p.step (Nat.le_refl _) hb⟩
            clear hK K
            repeat (
              with_reducible refine wpQuiet_step (fun K hK => ?_)
              go_simp
              refine hK _ ?_
              clear hK K)
            refine wpQuiet_nil ?_
            rintro _ ⟨p, rfl⟩
            have HO4 := Lib.hid (HO3.out.below p.h)
            obtain ⟨y, hy⟩ : ∃ y, (updR t vs (l.take k))[q]? = some y := ⟨(updR t vs (l.take k))[q]'(by rw [Hul.out]; exact hql), by simp [Hul.out, hql]⟩
            obtain ⟨y0, y1, y2⟩ := P3_at _ q y hy
            have z0 := World.ownsRow.cells HO4.out (g := g) rfl _ _ y0
            have z1 := World.ownsRow.cells HO4.out (g := g) rfl _ _ y1
            have z2 := World.ownsRow.cells HO4.out (g := g) rfl _ _ y2
            rw [Addr.add_lit, Nat.zero_add] at z0 z1 z2
            clear hy y0 y1 y2
            have hO4 : OwnV p.x w0.heap.size (.slice (some ⟨g, 0, none⟩) (updR t vs (l.take k)).length cap) (updR t vs (l.take k)) := by rw [Hul.out]; exact HO4.out
            have g0 := World.ownsRow.frozenAt hO4 (q * 3)
            have g1 := World.ownsRow.frozenAt hO4 (q * 3 + 1)
            have g2 := World.ownsRow.frozenAt hO4 (q * 3 + 2)
            have HO5 := Lib.hid (hO4.set3 q x.v)
            rw [Hul.out, ← Hup.out] at HO5
            clear hO4
            have Hb5 := Lib.hid ((((bthen Hbw3.out p.h).setCell (p := ⟨g, q * 3, none⟩) hg1 (.int .i64 x.k)).setCell (p := ⟨g, q * 3 + 1, none⟩) hg1 (.int .i64 x.n)).setCell (p := ⟨g, q * 3 + 2, none⟩) hg1 (.string x.s))
            have x1 : p.x.cell? ⟨wr.heap.size, 1, none⟩ = some (.int .i64 x.k) := (p.h.cell (by have := Hs3.out; simp; omega)).trans (HX3.out 1 _ rfl)
            have x2 : p.x.cell? ⟨wr.heap.size, 2, none⟩ = some (.int .i64 x.n) := (p.h.cell (by have := Hs3.out; simp; omega)).trans (HX3.out 2 _ rfl)
            have x3 : p.x.cell? ⟨wr.heap.size, 3, none⟩ = some (.string x.s) := (p.h.cell (by have := Hs3.out; simp; omega)).trans (HX3.out 3 _ rfl)
            go_wp2_with fail
            go_roundw
            case rel => exact ⟨k + 1, by omega, by go_num, HO5, Hall, Hb5⟩
            case measure => simp [intOf]; omega
        · have He := Lib.hid (replE_bad (vs := vs) hlim (fldsE_stop hall.out Hx.out (by rw [fldE_14 Hq.out hf]; decide)) (by rw [fldE_14 Hq.out hf]; decide))
          rw [fldE_14 Hq.out hf] at He
          rw [hf] at HH
          clear hf
          refine wp_region_below w3.heap.size (by kernel_rfl) (by kernel_rfl) ?_
          repeat (
            with_reducible refine wpQuiet_step (fun K hK => ?_)
            go_simp
            refine hK _ ?_
            clear hK K)
          with_reducible refine wpQuiet_step (fun K hK => ?_)
          go_simp
          apply Exists.intro
          refine ⟨fun p => ?_, hK _ ?_⟩
          exact (HH.out _ p.h).mono fun e w5 ⟨he, hb⟩ => ⟨he, p.step (Nat.le_refl _) hb⟩
          clear hK K
          repeat (
            with_reducible refine wpQuiet_step (fun K hK => ?_)
            go_simp
            refine hK _ ?_
            clear hK K)
          refine wpQuiet_nil ?_
          rintro _ ⟨p, rfl⟩
          go_wp2_with fail
          go_ret2
          exact ⟨_, by rw [He.out.1]; rfl, by rw [He.out.2]; exact OwnV.nil _ _, bthen (bthen Hb0.out Hbw3.out) p.h⟩
    · have Hf0 : Hid (fldsE t l fixed = 0) := fldsE_done fun j g hj => hall.out j g hj (by have := (List.getElem?_eq_some_iff.1 hj).1; omega)
      have Hrow := Lib.hid (replE_row (vs := vs) hlim Hf0.out)
      have hkl : l.take k = l := List.take_of_length_le (by omega)
      rw [hkl] at ho
      clear hkl
      obtain ⟨A2, c2', rfl, hA2⟩ := ValsAt.of_own ho.out
      have HRow := Lib.hid (row_any t A2 c2' (updR t vs l) wr (HT.out.below hb.out (Nat.le_refl _)) HW.out (RowAt.to HA.out hb.out) hA2 (by rw [updR_length]; exact hvm))
      clear hA2
      by_cases hz : rowT t (updR t vs l) = 0
      · have Hr : Hid (replR t vs l fixed = updR t vs l) := by show _ = _; unfold replR; rw [Hrow.out, if_pos hz]
        rw [hz] at HRow Hrow
        clear hz
        go_wp2_with fail
        refine HRow.out.mono ?_
        rintro e w3 ⟨rfl, hb3⟩
        have HO3 := Lib.hid (ho.out.below hb3)
        have Hb3 := Lib.hid (bthen Hbw.out hb3); clear hb3
        go_wp2_with fail
        go_ret2
        exact ⟨_, by rw [Hrow.out]; rfl, by rw [Hr.out]; exact HO3.out.mono (by have := Hs0.out; omega), Hb3.out⟩
      · have Hr : Hid (replR t vs l fixed = []) := by show _ = _; unfold replR; rw [Hrow.out, if_neg hz]
        obtain ⟨z, hzz⟩ : ∃ z, rowT t (updR t vs l) = z := ⟨_, rfl⟩
        rw [hzz] at HRow Hrow hz
        clear hzz
        have hz0 : (z == 0) = false := by simpa using hz
        have hz1 : (z != 0) = true := by rw [neq_int, hz0]; rfl
        clear hz
        go_wp2_with fail
        refine HRow.out.mono ?_
        rintro e w3 ⟨rfl, hb3⟩
        have Hb3 := Lib.hid (bthen Hbw.out hb3); clear hb3
        go_wp2_with fail
        go_ret2
        exact ⟨_, by rw [Hrow.out]; rfl, by rw [Hr.out]; exact OwnV.nil _ _, Hb3.out⟩
end Go.Proofs.YtmcgcanpaffggaaDoor

/-
  Contracts of package schema's Fill and Set.
-/
namespace Go.Proofs.YtmcgcanpaffggaaDoor
open Go.RowKit

noncomputable def fillE (t : Tb) (l : List Fb) : Int := if rightTab t = true then replE t (t.cols.map Cb.dv) l (-1) else 2
noncomputable def fillR (t : Tb) (l : List Fb) : List Vb := if rightTab t = true then replR t (t.cols.map Cb.dv) l (-1) else []
/-- the place of the key column -/
def keyI (t : Tb) : Option Nat := t.cols.findIdx? fun c => c.id == t.key
noncomputable def setE (t : Tb) (vs : List Vb) (l : List Fb) : Int := if rowT t vs = 0 then replE t vs l (((keyI t).getD 0 : Nat) : Int) else rowT t vs
noncomputable def setR (t : Tb) (vs : List Vb) (l : List Fb) : List Vb := if rowT t vs = 0 then replR t vs l (((keyI t).getD 0 : Nat) : Int) else []
theorem ValsAt.of_own' {w : World} {base n : Nat} {v : Value} {l : List Vb} (h : OwnV w base v l) (hn : l.length = n) : ∃ A c, v = .slice A n c ∧ ValsAt w w.heap.size A l ∧ (A = none → c = 0) := by
  subst hn
  rcases h.2 with ⟨rfl, hl⟩ | ⟨g, cap, cur, rfl, _⟩
  · exact ⟨none, 0, by rw [hl], fun hp => absurd hp (by omega), fun _ => rfl⟩
  · obtain ⟨A, c, e, hA⟩ := ValsAt.of_own h
    cases e
    exact ⟨_, _, rfl, hA, fun h => by cases h⟩
theorem rowT_fits {t : Tb} {vs : List Vb} (h : rowT t vs = 0) : rightTab t = true ∧ vs.length = t.cols.length := by
  unfold rowT at h
  by_cases h1 : rightTab t = true
  · rw [if_pos h1] at h
    by_cases h2 : vs.length = t.cols.length
    · exact ⟨h1, h2⟩
    · rw [if_neg h2] at h; exact absurd h (by decide)
  · rw [if_neg h1] at h; exact absurd h (by decide)

set_option maxRecDepth 100000 in
set_option maxHeartbeats 1600000 in
theorem sfill_any (t : Tb) (Al : Option Addr) (cl : Nat) (l : List Fb) (w : World) (ht : UTab w) (hw : WfT t) (hA : TabAt w w.heap.size t) (hF : FldsAt w w.heap.size Al l) (hcl : l.length ≤ cl) :
    Calls Tryd.prog 38 #[TV t, .slice Al l.length cl] w fun e w' => ∃ v, e = .returned (.tuple #[v, .int .i64 (fillE t l)]) ∧ OwnV w' w.heap.size v (fillR t l) ∧ Below w.heap.size w w' := by
  obtain ⟨w0, hw0, hb0, hB, hs0⟩ := box_tab w t
  have Hw0 := Lib.hid hw0; clear hw0
  have Hb0 := Lib.hid hb0
  have HA := Lib.hid (RowAt.to hA hb0); clear hA
  have HF := Lib.hid (RowAt.to hF hb0); clear hF
  have HT := Lib.hid (ht.below hb0 (Nat.le_refl _)); clear ht hb0
  have HB := Lib.hid hB; clear hB
  have Hs0 := Lib.hid hs0; clear hs0
  have HW := Lib.hid hw
  have hlen := hw.2.1; clear hw
  have HQ := Lib.hid (rtab_any t w0 HT.out HW.out HA.out)
  rw [← Hw0.out] at HQ
  cases hr : rightTab t
  · rw [hr] at HQ
    have He : Hid (fillE t l = 2 ∧ fillR t l = []) := by show _ ∧ _; unfold fillE fillR; rw [hr]; exact ⟨rfl, rfl⟩
    clear hr
    go_enter Tryd.func38, Tryd.ntmps38
    go_wp2_with fail
    refine HQ.out.mono ?_
    rintro e w1 ⟨rfl, hb1⟩
    rw [Hw0.out] at hb1
    have Hb1 := Lib.hid (bthen Hb0.out hb1); clear hb1
    go_wp2_with fail
    go_ret2
    exact ⟨_, by rw [He.out.1]; rfl, by rw [He.out.2]; exact OwnV.nil _ _, Hb1.out⟩
  · rw [hr] at HQ
    have He : Hid (fillE t l = replE t (t.cols.map Cb.dv) l (-1) ∧ fillR t l = replR t (t.cols.map Cb.dv) l (-1)) := by show _ ∧ _; unfold fillE fillR; rw [hr]; exact ⟨rfl, rfl⟩
    clear hr
    go_enter Tryd.func38, Tryd.ntmps38
    go_wp2_with fail
    refine HQ.out.mono ?_
    rintro e w1 ⟨rfl, hb1⟩
    rw [Hw0.out] at hb1
    have Hb1 := Lib.hid hb1
    have Hbw := Lib.hid (bthen Hb0.out hb1)
    have HB1 := Lib.hid (HB.out.below hb1 (by have := Hs0.out; omega))
    have Hs1 : Hid (w.heap.size < w1.heap.size) := by show _ < _; have := hb1.size; have := Hs0.out; omega
    have HA1 := Lib.hid (RowAt.to HA.out hb1)
    have HF1 := Lib.hid (RowAt.to HF.out hb1)
    have HT1 := Lib.hid (HT.out.below hb1 (Nat.le_refl _))
    clear hb1
    obtain ⟨c0, c1, c2, c3, c4⟩ := HB1.out.tab
    go_wp2_with fail
    have HD := Lib.hid (fun w' hA' => defs_any t w' hA' hlen)
    have HAd : Hid (TabAt w1.drew w1.drew.heap.size t) := RowAt.below HA1.out (Below.refl _ _).drew
    have HP : Hid (∀ A2 p2 w2, UTab w2 → TabAt w2 w2.heap.size t → ValsAt w2 w2.heap.size A2 (t.cols.map Cb.dv) → (A2 = none → p2 = 0) → FldsAt w2 w2.heap.size Al l → Calls Tryd.prog 68 #[TV t, .slice A2 t.cols.length p2, .slice Al l.length cl, .int .i64 (-1)] w2
        fun e w' => ∃ v, e = .returned (.tuple #[v, .int .i64 (replE t (t.cols.map Cb.dv) l (-1))]) ∧ OwnV w' w2.heap.size v (replR t (t.cols.map Cb.dv) l (-1)) ∧ Below w2.heap.size w2 w') := fun A2 p2 w2 h1 h2 h3 h4 h5 => by
      have := repl_any t A2 p2 (t.cols.map Cb.dv) Al cl l (-1) w2 h1 HW.out h2 h3 h4 (List.length_map _) h5 hcl
      rwa [List.length_map] at this
    go_region_with (first
      | (go_at_call 69; refine (HD.out _ HAd.out).mono ?_; rintro e w2 ⟨v, rfl, ho2, hb2⟩; obtain ⟨A2, p2, rfl, hA2, hn2⟩ := ValsAt.of_own' ho2 (List.length_map _); have HA2 := Lib.hid hA2; have HN2 := Lib.hid hn2; have Hb2 := Lib.hid ((Below.refl w1.heap.size w1).drew.trans hb2); clear hA2 hn2 ho2 hb2; obtain ⟨e0, e1, e2, e3, e4⟩ := (HB1.out.below Hb2.out Hs1.out).tab)
      | (go_at_call 68; refine (HP.out A2 p2 w2 (HT1.out.below Hb2.out (Nat.le_refl _)) (RowAt.to HA1.out Hb2.out) HA2.out HN2.out (RowAt.to HF1.out Hb2.out)).mono ?_; rintro e w3 ⟨v3, rfl, ho3, hb3⟩; have Hb3 := Lib.hid (bthen (bthen Hbw.out Hb2.out) hb3); have HO3 := Lib.hid (ho3.mono (show w.heap.size ≤ w2.heap.size from Nat.le_trans Hbw.out.size Hb2.out.size)); clear ho3 hb3)
      | fail)
    all_goals
      go_wp2_with fail
      go_ret2
      exact ⟨_, by rw [He.out.1]; rfl, by rw [He.out.2]; exact HO3.out, Hb3.out⟩
set_option maxRecDepth 100000 in
set_option maxHeartbeats 1600000 in
theorem sset_any (t : Tb) (A : Option Addr) (cp : Nat) (vs : List Vb) (Al : Option Addr) (cl : Nat) (l : List Fb) (w : World) (ht : UTab w) (hw : WfT t) (hA : TabAt w w.heap.size t) (hR : ValsAt w w.heap.size A vs) (hn : A = none → cp = 0) (hvm : vs.length ≤ 1000000)
    (hF : FldsAt w w.heap.size Al l) (hcl : l.length ≤ cl) :
    Calls Tryd.prog 41 #[TV t, .slice A vs.length cp, .slice Al l.length cl] w fun e w' => ∃ v, e = .returned (.tuple #[v, .int .i64 (setE t vs l)]) ∧ OwnV w' w.heap.size v (setR t vs l) ∧ Below w.heap.size w w' := by
  obtain ⟨w0, hw0, hb0, hB, hs0⟩ := box_tab w t
  have Hw0 := Lib.hid hw0; clear hw0
  have Hb0 := Lib.hid hb0
  have HA := Lib.hid (RowAt.to hA hb0); clear hA
  have HR := Lib.hid (hR.to hb0); clear hR
  have HF := Lib.hid (RowAt.to hF hb0); clear hF
  have HT := Lib.hid (ht.below hb0 (Nat.le_refl _)); clear ht hb0
  have HB := Lib.hid hB; clear hB
  have Hs0 := Lib.hid hs0; clear hs0
  have HW := Lib.hid hw
  have hlen := hw.2.1; clear hw
  have HN := Lib.hid hn; clear hn
  have HQ := Lib.hid (row_any t A cp vs w0 HT.out HW.out HA.out HR.out hvm)
  rw [← Hw0.out] at HQ
  by_cases hz : rowT t vs = 0
  · have He : Hid (setE t vs l = replE t vs l (((keyI t).getD 0 : Nat) : Int) ∧ setR t vs l = replR t vs l (((keyI t).getD 0 : Nat) : Int)) := by show _ ∧ _; unfold setE setR; rw [if_pos hz, if_pos hz]; exact ⟨rfl, rfl⟩
    have Hfit := Lib.hid (rowT_fits hz)
    rw [hz] at HQ
    clear hz
    go_enter Tryd.func41, Tryd.ntmps41
    go_wp2_with fail
    refine HQ.out.mono ?_
    rintro e w1 ⟨rfl, hb1⟩
    rw [Hw0.out] at hb1
    have Hb1 := Lib.hid hb1
    have Hs1 : Hid (w.heap.size < w1.heap.size) := by show _ < _; have := hb1.size; have := Hs0.out; omega
    obtain ⟨c0, c1, c2, c3, c4⟩ := (HB.out.below hb1 (by have := Hs0.out; omega)).tab
    clear hb1
    go_wp2_with fail
    refine (skey_any t w1 (RowAt.to HA.out Hb1.out) hlen).mono ?_
    rintro e w2 ⟨rfl, hb2⟩
    have Hb2 := Lib.hid (bthen Hb1.out hb2)
    clear c0 c1 c2 c3 c4
    obtain ⟨c0, c1, c2, c3, c4⟩ := (HB.out.below Hb2.out (by have := Hs0.out; omega)).tab
    clear hb2
    obtain ⟨q, hq⟩ : ∃ q : Nat, (keyI t).getD 0 = q := ⟨_, rfl⟩
    obtain ⟨bq, hbq⟩ : ∃ bq : Bool, (keyI t).isSome = bq := ⟨_, rfl⟩
    have Hfs : Hid (fstV (t.cols.findIdx? fun c => c.id == t.key) = .tuple #[.int .i64 (q : Int), .bool bq]) := by show fstV (keyI t) = _; unfold fstV; rw [hq, hbq]
    rw [hq] at He
    rw [Hfs.out]
    clear hq hbq
    go_wp2_with fail
    refine (repl_any t A cp vs Al cl l (q : Int) w2 (HT.out.below Hb2.out (Nat.le_refl _)) HW.out (RowAt.to HA.out Hb2.out) (HR.out.to Hb2.out) HN.out Hfit.out.2 (RowAt.to HF.out Hb2.out) hcl).mono ?_
    rintro e w3 ⟨v3, rfl, ho3, hb3⟩
    have Hb3 := Lib.hid (bthen (bthen Hb0.out Hb2.out) hb3)
    have HO3 := Lib.hid (ho3.mono (show w.heap.size ≤ w2.heap.size from (bthen Hb0.out Hb2.out).size))
    clear ho3 hb3
    go_wp2_with fail
    go_ret2
    exact ⟨_, by rw [He.out.1]; rfl, by rw [He.out.2]; exact HO3.out, Hb3.out⟩
  · have He : Hid (setE t vs l = rowT t vs ∧ setR t vs l = []) := by show _ ∧ _; unfold setE setR; rw [if_neg hz, if_neg hz]; exact ⟨rfl, rfl⟩
    obtain ⟨z, hzz⟩ : ∃ z, rowT t vs = z := ⟨_, rfl⟩
    rw [hzz] at HQ He hz
    clear hzz
    have hz0 : (z == 0) = false := by simpa using hz
    have hz1 : (z != 0) = true := by rw [neq_int, hz0]; rfl
    clear hz
    go_enter Tryd.func41, Tryd.ntmps41
    go_wp2_with fail
    refine HQ.out.mono ?_
    rintro e w1 ⟨rfl, hb1⟩
    rw [Hw0.out] at hb1
    have Hb1 := Lib.hid (bthen Hb0.out hb1); clear hb1
    go_wp2_with fail
    go_ret2
    exact ⟨_, by rw [He.out.1]; rfl, by rw [He.out.2]; exact OwnV.nil _ _, Hb1.out⟩
end Go.Proofs.YtmcgcanpaffggaaDoor

/-
  Contracts of slices.EqualFunc at tables and columns, of package schema's SameTable and Same, and of the document's own.
-/
namespace Go.Proofs.YtmcgcanpaffggaaDoor
open Go.RowKit

/-- are two lists alike, place by place? -/
def Pair {α : Type} (r : α → α → Bool) (a b : List α) : Prop := a.length = b.length ∧ ∀ (j : Nat) x y, a[j]? = some x → b[j]? = some y → r x y = true
theorem pair_stop {α : Type} {r : α → α → Bool} {a b : List α} {k : Nat} {x y : α} (hx : a[k]? = some x) (hy : b[k]? = some y) (h : r x y = false) : tf (Pair r a b) = false :=
  tf_no fun hp => by have := hp.2 k x y hx hy; rw [h] at this; cases this
theorem pair_self {α : Type} {r : α → α → Bool} (h : ∀ x, r x x = true) (a : List α) : tf (Pair r a a) = true :=
  tf_yes ⟨rfl, fun j x y hx hy => by rw [hx] at hy; cases hy; exact h x⟩
/-- are two tables alike? -/
noncomputable def sameT (a b : Tb) : Bool := (a.id == b.id) && (eqS a.nm b.nm && ((a.key == b.key) && ((a.nx == b.nx) && tf (Pair eqC a.cols b.cols))))
theorem eqC_self (c : Cb) : eqC c c = true := eqC_iff.2 rfl
theorem sameT_self (t : Tb) : sameT t t = true := by
  unfold sameT
  rw [pair_self eqC_self, eqS_self]; simp
set_option maxRecDepth 100000 in
set_option maxHeartbeats 1600000 in
theorem eqfT_any (A A2 : Option Addr) (cp cp2 : Nat) (a b : List Tb) (F : Nat) (r : Tb → Tb → Bool) (w : World) (hA : TabsAt w w.heap.size A a) (hA2 : TabsAt w w.heap.size A2 b) (hl : a.length ≤ 1000000) (_hl2 : b.length ≤ 1000000)
    (hF : ∀ args w, (callFunc F args).run Tryd.prog w = .ok (.enter F args) w)
    (hcall : ∀ x ∈ a, ∀ y ∈ b, ∀ w', Below w.heap.size w w' → Calls Tryd.prog F #[TV x, TV y] w' fun e w2 => e = .returned (.bool (r x y)) ∧ Below w'.heap.size w' w2) :
    Calls Tryd.prog 60 #[.slice A a.length cp, .slice A2 b.length cp2, .func (.func F) #[] #[]] w fun e w' => e = .returned (.bool (tf (Pair r a b))) ∧ Below w.heap.size w w' := by
  have HA := Lib.hid hA; clear hA
  have HA2 := Lib.hid hA2; clear hA2
  have HC := Lib.hid hcall; clear hcall
  by_cases hlen : a.length = b.length
  · have hneq : ((a.length : Int) != (b.length : Int)) = false := by simp [hlen]
    have heql : ((a.length : Int) == (b.length : Int)) = true := by simp [hlen]
    have Hlen := Lib.hid hlen; clear hlen
    go_enter Tryd.func60, Tryd.ntmps60
    go_wp2_with fail
    go_loopw [17] (fun i wr => ∃ k : Nat, k ≤ a.length ∧ i = .int .i64 k ∧ Hid (∀ j x y, a[j]? = some x → b[j]? = some y → j < k → r x y = true) ∧ Hid (Below w.heap.size w wr)) (fun i _ => a.length - (intOf i).toNat)
    case atStart => exact ⟨0, by omega, rfl, fun j x y _ _ h => absurd h (by omega), Below.refl _ _⟩
    case round =>
      obtain ⟨k, hk, rfl, hall, hb⟩ := hrel
      by_cases hlt : k < a.length
      · have hlt2 : k < b.length := by have := Hlen.out; omega
        obtain ⟨x, hx⟩ : ∃ x, a[k]? = some x := ⟨a[k], by simp [hlt]⟩
        obtain ⟨y, hy⟩ : ∃ y, b[k]? = some y := ⟨b[k], by simp [hlt2]⟩
        have Hx := Lib.hid hx
        have Hy := Lib.hid hy
        have hA2' := HA2.out.below hb.out
        obtain ⟨b1, off, rfl, hbB, c0, c1, c2, c3, c4⟩ := (HA.out.below hb.out).get k x hx
        obtain ⟨b2, off2, rfl, hbB2, d0, d1, d2, d3, d4⟩ := hA2'.get k y hy
        have e0 := fun o => keep_alloc d0 o
        have e1 := fun o => keep_alloc d1 o
        have e2 := fun o => keep_alloc d2 o
        have e3 := fun o => keep_alloc d3 o
        have e4 := fun o => keep_alloc d4 o
        have Hcl := Lib.hid (HC.out x (List.mem_of_getElem? hx) y (List.mem_of_getElem? hy))
        have Hbn := Lib.hid (bthen hb.out (below_two wr (.cells (fT x).toArray 29) (.cells (fT y).toArray 29)))
        clear hx hy hA2'
        cases hp : r x y
        · rw [hp] at Hcl
          have Hno : Hid (tf (Pair r a b) = false) := pair_stop Hx.out Hy.out hp
          clear hp
          go_wp2_with fail
          refine (Hcl.out _ Hbn.out).mono ?_
          rintro e w1 ⟨rfl, hb1⟩
          have Hb1 := Lib.hid (bthen Hbn.out hb1); clear hb1
          go_wp2_with fail
          go_ret
          exact ⟨by rw [Hno.out]; rfl, Hb1.out⟩
        · rw [hp] at Hcl
          have Hall : Hid (∀ j x y, a[j]? = some x → b[j]? = some y → j < k + 1 → r x y = true) := fun j x' y' hj hj2 hk => by
            by_cases e : j = k
            · subst e
              rw [Hx.out] at hj; cases hj
              rw [Hy.out] at hj2; cases hj2
              exact hp
            · exact hall.out j x' y' hj hj2 (by omega)
          clear hp
          go_wp2_with fail
          refine (Hcl.out _ Hbn.out).mono ?_
          rintro e w1 ⟨rfl, hb1⟩
          have Hb1 := Lib.hid (bthen Hbn.out hb1); clear hb1
          go_wp2_with fail
          go_roundw
          case rel => exact ⟨k + 1, by omega, by go_num, Hall.out, Hb1.out⟩
          case measure => simp [intOf]; omega
      · have Hyes : Hid (tf (Pair r a b) = true) := tf_yes ⟨Hlen.out, fun j x y hx hy => hall.out j x y hx hy (by have := (List.getElem?_eq_some_iff.1 hx).1; omega)⟩
        go_wp2_with fail
        go_ret
        exact ⟨by rw [Hyes.out]; rfl, hb.out⟩
  · have hneq : ((a.length : Int) != (b.length : Int)) = true := by simp; omega
    have heql : ((a.length : Int) == (b.length : Int)) = false := by simp; omega
    have Hno : Hid (tf (Pair r a b) = false) := tf_no fun h => hlen h.1
    clear hlen
    go_enter Tryd.func60, Tryd.ntmps60
    go_wp2_with fail
    go_ret
    exact ⟨by rw [Hno.out]; rfl, Below.refl _ _⟩
set_option maxRecDepth 100000 in
set_option maxHeartbeats 1600000 in
theorem eqfC_any (A A2 : Option Addr) (cp cp2 : Nat) (a b : List Cb) (F : Nat) (r : Cb → Cb → Bool) (w : World) (hA : ColsAt w w.heap.size A a) (hA2 : ColsAt w w.heap.size A2 b) (hl : a.length ≤ 1000000) (_hl2 : b.length ≤ 1000000)
    (hF : ∀ args w, (callFunc F args).run Tryd.prog w = .ok (.enter F args) w)
    (hcall : ∀ x ∈ a, ∀ y ∈ b, ∀ w', Below w.heap.size w w' → Calls Tryd.prog F #[CV x, CV y] w' fun e w2 => e = .returned (.bool (r x y)) ∧ Below w'.heap.size w' w2) :
    Calls Tryd.prog 64 #[.slice A a.length cp, .slice A2 b.length cp2, .func (.func F) #[] #[]] w fun e w' => e = .returned (.bool (tf (Pair r a b))) ∧ Below w.heap.size w w' := by
  have HA := Lib.hid hA; clear hA
  have HA2 := Lib.hid hA2; clear hA2
  have HC := Lib.hid hcall; clear hcall
  by_cases hlen : a.length = b.length
  · have hneq : ((a.length : Int) != (b.length : Int)) = false := by simp [hlen]
    have heql : ((a.length : Int) == (b.length : Int)) = true := by simp [hlen]
    have Hlen := Lib.hid hlen; clear hlen
    go_enter Tryd.func64, Tryd.ntmps64
    go_wp2_with fail
    go_loopw [17] (fun i wr => ∃ k : Nat, k ≤ a.length ∧ i = .int .i64 k ∧ Hid (∀ j x y, a[j]? = some x → b[j]? = some y → j < k → r x y = true) ∧ Hid (Below w.heap.size w wr)) (fun i _ => a.length - (intOf i).toNat)
    case atStart => exact ⟨0, by omega, rfl, fun j x y _ _ h => absurd h (by omega), Below.refl _ _⟩
    case round =>
      obtain ⟨k, hk, rfl, hall, hb⟩ := hrel
      by_cases hlt : k < a.length
      · have hlt2 : k < b.length := by have := Hlen.out; omega
        obtain ⟨x, hx⟩ : ∃ x, a[k]? = some x := ⟨a[k], by simp [hlt]⟩
        obtain ⟨y, hy⟩ : ∃ y, b[k]? = some y := ⟨b[k], by simp [hlt2]⟩
        have Hx := Lib.hid hx
        have Hy := Lib.hid hy
        have hA2' := RowAt.below HA2.out hb.out
        obtain ⟨b1, off, rfl, hbB, c0, c1, c2, c3, c4, c5, c6, c7⟩ := ColsAt.get (RowAt.below HA.out hb.out) k x hx
        obtain ⟨b2, off2, rfl, hbB2, d0, d1, d2, d3, d4, d5, d6, d7⟩ := ColsAt.get hA2' k y hy
        have e0 := fun o => keep_alloc d0 o
        have e1 := fun o => keep_alloc d1 o
        have e2 := fun o => keep_alloc d2 o
        have e3 := fun o => keep_alloc d3 o
        have e4 := fun o => keep_alloc d4 o
        have e5 := fun o => keep_alloc d5 o
        have e6 := fun o => keep_alloc d6 o
        have e7 := fun o => keep_alloc d7 o
        have Hcl := Lib.hid (HC.out x (List.mem_of_getElem? hx) y (List.mem_of_getElem? hy))
        have Hbn := Lib.hid (bthen hb.out (below_two wr (.cells (fC x).toArray 37) (.cells (fC y).toArray 37)))
        clear hx hy hA2'
        cases hp : r x y
        · rw [hp] at Hcl
          have Hno : Hid (tf (Pair r a b) = false) := pair_stop Hx.out Hy.out hp
          clear hp
          go_wp2_with fail
          refine (Hcl.out _ Hbn.out).mono ?_
          rintro e w1 ⟨rfl, hb1⟩
          have Hb1 := Lib.hid (bthen Hbn.out hb1); clear hb1
          go_wp2_with fail
          go_ret
          exact ⟨by rw [Hno.out]; rfl, Hb1.out⟩
        · rw [hp] at Hcl
          have Hall : Hid (∀ j x y, a[j]? = some x → b[j]? = some y → j < k + 1 → r x y = true) := fun j x' y' hj hj2 hk => by
            by_cases e : j = k
            · subst e
              rw [Hx.out] at hj; cases hj
              rw [Hy.out] at hj2; cases hj2
              exact hp
            · exact hall.out j x' y' hj hj2 (by omega)
          clear hp
          go_wp2_with fail
          refine (Hcl.out _ Hbn.out).mono ?_
          rintro e w1 ⟨rfl, hb1⟩
          have Hb1 := Lib.hid (bthen Hbn.out hb1); clear hb1
          go_wp2_with fail
          go_roundw
          case rel => exact ⟨k + 1, by omega, by go_num, Hall.out, Hb1.out⟩
          case measure => simp [intOf]; omega
      · have Hyes : Hid (tf (Pair r a b) = true) := tf_yes ⟨Hlen.out, fun j x y hx hy => hall.out j x y hx hy (by have := (List.getElem?_eq_some_iff.1 hx).1; omega)⟩
        go_wp2_with fail
        go_ret
        exact ⟨by rw [Hyes.out]; rfl, hb.out⟩
  · have hneq : ((a.length : Int) != (b.length : Int)) = true := by simp; omega
    have heql : ((a.length : Int) == (b.length : Int)) = false := by simp; omega
    have Hno : Hid (tf (Pair r a b) = false) := tf_no fun h => hlen h.1
    clear hlen
    go_enter Tryd.func64, Tryd.ntmps64
    go_wp2_with fail
    go_ret
    exact ⟨by rw [Hno.out]; rfl, Below.refl _ _⟩
theorem sameC1_any (x y : Cb) (w : World) : Calls Tryd.prog 65 #[CV x, CV y] w fun e w' => e = .returned (.bool (eqC x y)) ∧ Below w.heap.size w w' := by
  have q := fun w => run_eql_C w x y
  have hk := Lib.hid (below_two w (.cells (fC x).toArray 37) (.cells (fC y).toArray 37))
  obtain ⟨x0, x1, x2, x3, x4, x5, x6, x7⟩ := (BlkN.new w _ (fC x) 37 rfl).col
  have e0 := fun o => keep_alloc x0 o
  have e1 := fun o => keep_alloc x1 o
  have e2 := fun o => keep_alloc x2 o
  have e3 := fun o => keep_alloc x3 o
  have e4 := fun o => keep_alloc x4 o
  have e5 := fun o => keep_alloc x5 o
  have e6 := fun o => keep_alloc x6 o
  have e7 := fun o => keep_alloc x7 o
  clear x0 x1 x2 x3 x4 x5 x6 x7
  unfold fC at e0 e1 e2 e3 e4 e5 e6 e7
  go_enter Tryd.func65, Tryd.ntmps65
  go_wp2_with fail
  go_ret
  exact ⟨rfl, hk.out⟩
theorem entersSameC : ∀ args w, (callFunc 65 args).run Tryd.prog w = .ok (.enter 65 args) w := Go.Proofs.enters_of Tryd.func65 (by kernel_rfl) rfl
end Go.Proofs.YtmcgcanpaffggaaDoor

/-
  Contract of the document's own SameRow of layer 8.
-/
namespace Go.Proofs.YtmcgcanpaffggaaDoor
open Go.RowKit

def eqV (a b : Vb) : Bool := (a.1 == b.1) && ((a.2.1 == b.2.1) && eqS a.2.2 b.2.2)
theorem eqV_self (a : Vb) : eqV a a = true := by unfold eqV; rw [eqS_self]; simp
theorem eqV_iff {a b : Vb} : eqV a b = true ↔ a = b := by
  obtain ⟨a1, a2, a3⟩ := a
  obtain ⟨b1, b2, b3⟩ := b
  have e : a3.toList = b3.toList ↔ a3 = b3 := by rw [← eqS_iff]; simp [eqS]
  simp only [eqV, Bool.and_eq_true, beq_iff_eq, Prod.mk.injEq, e]
set_option maxRecDepth 100000 in
set_option maxHeartbeats 1600000 in
theorem rsamev_any (A A2 : Option Addr) (cp cp2 : Nat) (a b : List Vb) (w : World) (hA : ValsAt w w.heap.size A a) (hA2 : ValsAt w w.heap.size A2 b) (hl : a.length ≤ 1000000) (hl2 : b.length ≤ 1000000) :
    Calls Tryd.prog 40 #[.slice A a.length cp, .slice A2 b.length cp2] w fun e w' => e = .returned (.bool (tf (Pair eqV a b))) ∧ Below w.heap.size w w' := by
  have HA := Lib.hid hA; clear hA
  have HA2 := Lib.hid hA2; clear hA2
  by_cases hlen : a.length = b.length
  · have hneq : ((a.length : Int) != (b.length : Int)) = false := by simp [hlen]
    have heql : ((a.length : Int) == (b.length : Int)) = true := by simp [hlen]
    have Hlen := Lib.hid hlen; clear hlen
    go_enter Tryd.func40, Tryd.ntmps40
    go_wp2_with fail
    go_loopw [5] (fun i wr => ∃ k : Nat, k ≤ a.length ∧ i = .int .i64 k ∧ Hid (∀ j x y, a[j]? = some x → b[j]? = some y → j < k → eqV x y = true) ∧ Hid (Below w.heap.size w wr)) (fun i _ => a.length - (intOf i).toNat)
    case atStart => exact ⟨0, by omega, rfl, fun j x y _ _ h => absurd h (by omega), Below.refl _ _⟩
    case round =>
      obtain ⟨k, hk, rfl, hall, hb⟩ := hrel
      by_cases hlt : k < a.length
      · have hlt2 : k < b.length := by have := Hlen.out; omega
        obtain ⟨x, hx⟩ : ∃ x, a[k]? = some x := ⟨a[k], by simp [hlt]⟩
        obtain ⟨y, hy⟩ : ∃ y, b[k]? = some y := ⟨b[k], by simp [hlt2]⟩
        have Hx := Lib.hid hx
        have Hy := Lib.hid hy
        obtain ⟨b1, off, rfl, hbB, c⟩ := (HA.out.below hb.out) (by omega)
        obtain ⟨b2, off2, rfl, hbB2, d⟩ := (HA2.out.below hb.out) (by omega)
        obtain ⟨c0, c1, c2⟩ := c k x hx
        obtain ⟨d0, d1, d2⟩ := d k y hy
        have hne : Nonempty (BelowBy wr.heap.size wr) := ⟨⟨wr, Below.refl _ _⟩⟩
        have X0 : ∀ p : BelowBy wr.heap.size wr, p.x.cell? ⟨b1, off + k * 3, none⟩ = some (.int .i64 x.1) := fun p => (p.h.cell (by have := hb.out.size; simp; omega)).trans c0
        have X1 : ∀ p : BelowBy wr.heap.size wr, p.x.cell? ⟨b1, off + k * 3 + 1, none⟩ = some (.int .i64 x.2.1) := fun p => (p.h.cell (by have := hb.out.size; simp; omega)).trans c1
        have X2 : ∀ p : BelowBy wr.heap.size wr, p.x.cell? ⟨b1, off + k * 3 + 2, none⟩ = some (.string x.2.2) := fun p => (p.h.cell (by have := hb.out.size; simp; omega)).trans c2
        have Y0 : ∀ p : BelowBy wr.heap.size wr, p.x.cell? ⟨b2, off2 + k * 3, none⟩ = some (.int .i64 y.1) := fun p => (p.h.cell (by have := hb.out.size; simp; omega)).trans d0
        have Y1 : ∀ p : BelowBy wr.heap.size wr, p.x.cell? ⟨b2, off2 + k * 3 + 1, none⟩ = some (.int .i64 y.2.1) := fun p => (p.h.cell (by have := hb.out.size; simp; omega)).trans d1
        have Y2 : ∀ p : BelowBy wr.heap.size wr, p.x.cell? ⟨b2, off2 + k * 3 + 2, none⟩ = some (.string y.2.2) := fun p => (p.h.cell (by have := hb.out.size; simp; omega)).trans d2
        have q : ∀ w, (binOp .neq 35 (VV x.1 x.2.1 x.2.2) (VV y.1 y.2.1 y.2.2)).run Tryd.prog w = .ok (.bool (!eqV x y)) w := fun w => run_neq_V w _ _ _ _ _ _
        have hk0 : (0 : Int) ≤ (k : Int) := by omega
        clear hx hy c0 c1 c2 d0 d1 d2 c d
        cases hp : eqV x y
        · have Hno : Hid (tf (Pair eqV a b) = false) := pair_stop Hx.out Hy.out hp
          rw [hp] at q
          clear hp
          go_wp2_with fail
          refine wp_region_below wr.heap.size (by kernel_rfl) (by kernel_rfl) ?_
          repeat (
            with_reducible refine wpQuiet_step (fun K hK => ?_)
            go_simp
            refine hK _ ?_
            clear hK K)
          refine wpQuiet_nil ?_
          rintro _ ⟨p, rfl⟩
          go_wp2_with fail
          go_ret
          exact ⟨by rw [Hno.out]; rfl, bthen hb.out p.h⟩
        · have Hall : Hid (∀ j x y, a[j]? = some x → b[j]? = some y → j < k + 1 → eqV x y = true) := fun j x' y' hj hj2 hk => by
            by_cases e : j = k
            · subst e
              rw [Hx.out] at hj; cases hj
              rw [Hy.out] at hj2; cases hj2
              exact hp
            · exact hall.out j x' y' hj hj2 (by omega)
          rw [hp] at q
          clear hp
          go_wp2_with fail
          refine wp_region_below wr.heap.size (by kernel_rfl) (by kernel_rfl) ?_
          repeat (
            with_reducible refine wpQuiet_step (fun K hK => ?_)
            go_simp
            refine hK _ ?_
            clear hK K)
          refine wpQuiet_nil ?_
          rintro _ ⟨p, rfl⟩
          go_wp2_with fail
          go_roundw
          case rel => exact ⟨k + 1, by omega, by go_num, Hall.out, bthen hb.out p.h⟩
          case measure => simp [intOf]; omega
      · have Hyes : Hid (tf (Pair eqV a b) = true) := tf_yes ⟨Hlen.out, fun j x y hx hy => hall.out j x y hx hy (by have := (List.getElem?_eq_some_iff.1 hx).1; omega)⟩
        go_wp2_with fail
        go_ret
        exact ⟨by rw [Hyes.out]; rfl, hb.out⟩
  · have hneq : ((a.length : Int) != (b.length : Int)) = true := by simp; omega
    have heql : ((a.length : Int) == (b.length : Int)) = false := by simp; omega
    have Hno : Hid (tf (Pair eqV a b) = false) := tf_no fun h => hlen h.1
    clear hlen
    go_enter Tryd.func40, Tryd.ntmps40
    go_wp2_with fail
    go_ret
    exact ⟨by rw [Hno.out]; rfl, Below.refl _ _⟩
end Go.Proofs.YtmcgcanpaffggaaDoor

/-
  Contracts of the law's own Small and lives of layer 8.
-/
namespace Go.Proofs.YtmcgcanpaffggaaDoor
open Go.RowKit

def colA : Cb := ⟨0, ⟨#[97]⟩, 1, 0, false, 0, 0, ⟨#[]⟩⟩
def colB : Cb := ⟨1, ⟨#[98]⟩, 3, 5, true, 0, 0, ⟨#[]⟩⟩
def smallT (A : Option Addr) : Tb := ⟨3, ⟨#[116]⟩, 0, 2, A, 2, [colA, colB]⟩
theorem nul0 : nulV 0 0 ⟨#[]⟩ = true := by unfold nulV; rw [show eqS ⟨#[]⟩ ByteArray.empty = true from eqS_self _]; rfl
theorem rightA : rightC colA = true := by
  show (decide ((0 : Int) ≤ 0) && (decide ((0 : Int) < 200) && (rightN [97] && (rightT 1 0 && (nulV 0 0 ⟨#[]⟩ || fitT 1 0 0 0 ⟨#[]⟩))))) = true
  rw [nul0, show rightN [97] = true by decide +kernel]; decide +kernel
theorem rightB : rightC colB = true := by
  show (decide ((0 : Int) ≤ 1) && (decide ((1 : Int) < 200) && (rightN [98] && (rightT 3 5 && (nulV 0 0 ⟨#[]⟩ || fitT 3 5 0 0 ⟨#[]⟩))))) = true
  rw [nul0, show rightN [98] = true by decide +kernel]; decide +kernel
theorem small_find (A : Option Addr) : (smallT A).cols.findIdx? (fun c => c.id == (smallT A).key) = some 0 := rfl
theorem small_right (A : Option Addr) : rightTab (smallT A) = true := by
  have hd : tf (Dist Cb.id Cb.nm [colA, colB]) = true := tf_yes fun i hi x hx => by
    match i, hx with
    | 0, hx => exact ⟨fun y h => absurd h (by omega), fun j y h => absurd h (by omega)⟩
    | 1, hx =>
      have ex : x = colB := by simpa using hx.symm
      subst ex
      refine ⟨fun y _ hy => ?_, fun j y hj hy => ?_⟩
      · have ey : y = colA := by simpa using hy.symm
        subst ey
        show (0 : Int) < 1
        decide
      · obtain rfl : j = 0 := by omega
        have ey : y = colA := by simpa using hy.symm
        subst ey
        show (⟨#[97]⟩ : ByteArray) ≠ ⟨#[98]⟩
        decide
    | i + 2, hx => simp at hx
  have hc : ([colA, colB].all fun c => rightC c && decide (c.id < 2)) = true := by
    show (rightC colA && decide ((0 : Int) < 2) && (rightC colB && decide ((1 : Int) < 2) && true)) = true
    rw [rightA, rightB]; rfl
  have hk : tf (keyOk (smallT A)) = true := tf_yes ⟨0, colA, small_find A, rfl, rfl⟩
  have hr : rightCols (smallT A) = true := by
    show (([colA, colB].all fun c => rightC c && decide (c.id < 2)) && tf (Dist Cb.id Cb.nm [colA, colB])) = true
    rw [hc, hd]; rfl
  show (decide ((0 : Int) ≤ 3) && (rightN [116] && (decide ((2 : Int) ≤ 200) && (decide ((1 : Int) ≤ 2) && (decide ((2 : Int) ≤ 10) && (rightCols (smallT A) && tf (keyOk (smallT A)))))))) = true
  rw [hr, hk, show rightN [116] = true by decide +kernel]; rfl
def fldA : Fb := ⟨⟨#[97]⟩, 1, 1, ⟨#[]⟩⟩
def rowA : List Vb := [(1, 1, ⟨#[]⟩), (0, 0, ⟨#[]⟩)]
theorem small_col (A : Option Addr) : colI (smallT A) ⟨#[97]⟩ = some 0 := find_at (y := colA) (fun j x _ h => absurd h (by omega)) rfl (eqS_self _)
theorem small_row (A : Option Addr) : rowT (smallT A) rowA = 0 := by
  rw [rowT_yes (small_right A) rfl]
  have h1 : celE colA (1, 1, ⟨#[]⟩) = 0 := by
    unfold celE
    rw [if_neg (by show ¬ nulV 1 1 ⟨#[]⟩ = true; exact fun h => by cases h), if_pos (by show fitT 1 0 1 1 ⟨#[]⟩ = true; decide +kernel)]
  have h2 : celE colB (0, 0, ⟨#[]⟩) = 0 := by
    unfold celE
    rw [if_pos nul0]; rfl
  show (if celE colA (1, 1, ⟨#[]⟩) = 0 then (if celE colB (0, 0, ⟨#[]⟩) = 0 then (0 : Int) else celE colB (0, 0, ⟨#[]⟩)) else celE colA (1, 1, ⟨#[]⟩)) = 0
  rw [if_pos h1, if_pos h2]
theorem small_upd (A : Option Addr) : updR (smallT A) ((smallT A).cols.map Cb.dv) [fldA] = rowA := by
  show ([(0, 0, ⟨#[]⟩), (0, 0, ⟨#[]⟩)] : List Vb).set ((colI (smallT A) ⟨#[97]⟩).getD 0) (1, 1, ⟨#[]⟩) = rowA
  rw [small_col]; rfl
theorem small_fill (A : Option Addr) : fillE (smallT A) [fldA] = 0 ∧ fillR (smallT A) [fldA] = rowA := by
  have hf : fldsE (smallT A) [fldA] (-1) = 0 := fldsE_done fun j g hj => by
    match j, hj with
    | 0, hj =>
      have eg : g = fldA := by simpa using hj.symm
      subst eg
      exact fldE_0 (q := 0) (small_col A) rfl (by decide)
    | j + 1, hj => simp at hj
  have he : replE (smallT A) ((smallT A).cols.map Cb.dv) [fldA] (-1) = 0 := by
    rw [replE_row (by simp) hf, small_upd, small_row]
  unfold fillE fillR
  rw [if_pos (small_right A), if_pos (small_right A), he]
  refine ⟨rfl, ?_⟩
  unfold replR
  rw [he, if_pos rfl, small_upd]
theorem small_wf (A : Option Addr) : WfT (smallT A) := by
  refine ⟨show (1 : Nat) ≤ 1000000 by decide, show (2 : Nat) ≤ 1000000 by decide, show (2 : Nat) ≤ 2 by decide, fun c hc => ?_⟩
  have : c = colA ∨ c = colB := by simpa [smallT] using hc
  rcases this with rfl | rfl
  · exact ⟨by decide, by decide, by decide⟩
  · exact ⟨by decide, by decide, by decide⟩
set_option maxRecDepth 100000 in
theorem small_any (w : World) : Calls Tryd.prog 43 #[] w fun e w' => ∃ A, e = .returned (TV (smallT A)) ∧ TabAt w' w'.heap.size (smallT A) ∧ Below w.heap.size w w' := by
  go_enter Tryd.func43, Tryd.ntmps43
  go_wp2_with fail
  go_returns
  refine ⟨some ⟨w.heap.size + 1, 0, none⟩, rfl, fun _ => ⟨w.heap.size + 1, 0, rfl, by simp, fun j x hj i v hv => ?_⟩, by go_grown⟩
  have hB := BlkN.new (w.alloc (Obj.cells #[Value.int IntKind.i64 3, Value.string { data := #[116] }, Value.int IntKind.i64 0, Value.int IntKind.i64 2, Value.slice (some { block := w.heap.size + 1, off := 0 }) 2 2] 29)) (w.heap.size + 1) (fC colA ++ fC colB) 37 (by simp)
  match j, hj with
  | 0, hj =>
    have ex : x = colA := by simpa [smallT] using hj.symm
    subst ex
    have hi : i < 8 := (List.getElem?_eq_some_iff.1 hv).1
    have := hB i v (by rw [List.getElem?_append_left (by exact hi)]; exact hv)
    rw [show 0 + 0 * 8 + i = i by omega]
    exact this
  | 1, hj =>
    have ex : x = colB := by simpa [smallT] using hj.symm
    subst ex
    have := hB (8 + i) v (by rw [List.getElem?_append_right (by show 8 ≤ 8 + i; omega)]; show (fC colB)[8 + i - 8]? = _; rw [show 8 + i - 8 = i by omega]; exact hv)
    rw [show 0 + 1 * 8 + i = 8 + i by omega]
    exact this
  | j + 2, hj => simp [smallT] at hj
set_option maxRecDepth 100000 in
set_option maxHeartbeats 1600000 in
theorem lives8_any (w : World) (ht : UTab w) : Calls Tryd.prog 8 #[] w fun e w' => e = .returned (.bool true) ∧ Below w.heap.size w w' := by
  have HT := Lib.hid ht; clear ht
  go_enter Tryd.func8, Tryd.ntmps8
  go_wp2_with fail
  refine (small_any _).mono ?_
  rintro e w1 ⟨A, rfl, hA1, hb1⟩
  have HA1 := Lib.hid hA1
  have Hb1 := Lib.hid hb1
  clear hA1 hb1
  obtain ⟨w2, hw2, hb2, hX, hs2⟩ : ∃ w2, w1.alloc (.cells #[.string ⟨#[97]⟩, .int .i64 1, .int .i64 1, .string ⟨#[]⟩] 76) = w2 ∧ Below w1.heap.size w1 w2 ∧ BlkN w2 w1.heap.size (fF fldA) ∧ w2.heap.size = w1.heap.size + 1 := box_fld w1 fldA
  have Hw2 := Lib.hid hw2; clear hw2
  have Hb2 := Lib.hid (bthen Hb1.out hb2)
  have HF : Hid (FldsAt w2 w2.heap.size (some ⟨w1.heap.size, 0, none⟩) [fldA]) := fun _ => ⟨w1.heap.size, 0, rfl, by omega, fun j x hj i v hv => by
    match j, hj with
    | 0, hj =>
      have ex : x = fldA := by simpa using hj.symm
      subst ex
      rw [show 0 + 0 * 4 + i = i by omega]
      exact hX i v hv
    | j + 1, hj => simp at hj⟩
  have HFi := Lib.hid (sfill_any (smallT A) (some ⟨w1.heap.size, 0, none⟩) 1 [fldA] w2 (HT.out.below Hb2.out (Nat.le_refl _)) (small_wf A) (RowAt.to HA1.out hb2) HF.out (by simp))
  rw [(small_fill A).1, (small_fill A).2, ← Hw2.out] at HFi
  clear hX hs2 hb2
  go_wp2_with fail
  refine HFi.out.mono ?_
  rintro e w3 ⟨v, rfl, ho3, hb3⟩
  rw [Hw2.out] at hb3
  obtain ⟨A3, c3, rfl, hA3, _⟩ := ValsAt.of_own' ho3 rfl
  have HA3 := Lib.hid hA3
  have Hb3 := Lib.hid (bthen Hb2.out hb3)
  clear hA3 hb3 ho3
  obtain ⟨w4, hw4, hb4, hY, hs4⟩ : ∃ w4, w3.alloc (.cells #[.int .i64 1, .int .i64 1, .string ⟨#[]⟩, .int .i64 0, .int .i64 0, .string ⟨#[]⟩] 35) = w4 ∧ Below w3.heap.size w3 w4 ∧ BlkN w4 w3.heap.size (P3 rowA) ∧ w4.heap.size = w3.heap.size + 1 :=
    ⟨_, rfl, (Below.refl _ _).alloc (Nat.le_refl _) _, BlkN.new w3 _ (P3 rowA) _ rfl, by simp⟩
  have Hw4 := Lib.hid hw4; clear hw4
  have HV : Hid (ValsAt w4 w4.heap.size (some ⟨w3.heap.size, 0, none⟩) rowA) := fun _ => ⟨w3.heap.size, 0, rfl, by omega, fun j t hj => by
    obtain ⟨y0, y1, y2⟩ := P3_at rowA j t hj
    simp only [Nat.zero_add]
    exact ⟨hY _ _ y0, hY _ _ y1, hY _ _ y2⟩⟩
  have HS := Lib.hid (rsamev_any A3 (some ⟨w3.heap.size, 0, none⟩) c3 2 rowA rowA w4 (HA3.out.to hb4) HV.out (by decide) (by decide))
  have Hb4 := Lib.hid (bthen Hb3.out hb4)
  rw [pair_self eqV_self, ← Hw4.out] at HS
  clear hY hs4 hb4
  unfold rowA at HS
  go_wp2_with fail
  refine HS.out.mono ?_
  rintro e w5 ⟨rfl, hb5⟩
  rw [Hw4.out] at hb5
  have Hb5 := Lib.hid (bthen Hb4.out hb5); clear hb5
  go_wp2_with fail
  refine (small_any _).mono ?_
  rintro e w6 ⟨A6, rfl, hA6, hb6⟩
  have HA6 := Lib.hid hA6
  have Hb6 := Lib.hid (bthen Hb5.out hb6)
  clear hA6 hb6
  have HR := Lib.hid (rtab_any (smallT A6) w6 (HT.out.below Hb6.out (Nat.le_refl _)) (small_wf A6) HA6.out)
  rw [small_right] at HR
  go_wp2_with fail
  refine HR.out.mono ?_
  rintro e w7 ⟨rfl, hb7⟩
  have Hb7 := Lib.hid (bthen Hb6.out hb7); clear hb7
  go_wp2_with fail
  go_ret
  exact ⟨rfl, Hb7.out⟩
end Go.Proofs.YtmcgcanpaffggaaDoor
