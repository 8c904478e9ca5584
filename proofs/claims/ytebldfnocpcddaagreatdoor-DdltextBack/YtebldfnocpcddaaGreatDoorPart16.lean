/-
  Texts that the proof needs, one behind the other: DdlLibC, DdlOpen, DdlCloneC, DdlSmallC, DdlAcolC, DdlAddC, DdlPlainC, DdlSameC, DdlOpen2, DdlSize, DdlFillC, DdlInsC, DdlIns2C, DdlCreateC, DdlCutC.
-/
import Derived.Lib.SliceRun
import Derived.Laws.IdiomCopy
import Derived.Deep.RegionLaw
import Derived.WalkKit
import Derived.SizedLaws
import Derived.Shelf.Spec.SlicesInsertGrow
import Derived.Test.YtebldfnocpcddaaGreatDoorPart15
import Derived.Test.YtebldfnocpcddaaGreatDoorPart8
import Derived.Test.YtebldfnocpcddaaGreatDoorPart1

/-
  Contracts of package slices at tables and columns: Clone, Delete of one, Equal.
-/
namespace Go.Proofs.YtebldfnocpcddaaGreatDoor
open Go.RowKit

theorem RowAt.nil {α : Type} {m : Nat} {f : α → List Value} {w : World} {B : Nat} {l : List α} (h : RowAt m f w B none l) : l = [] := by
  cases l with
  | nil => rfl
  | cons y r =>
    obtain ⟨_, _, h3, _⟩ := h (by simp)
    cases h3
/-- a row by its cells -/
theorem own_of_cells {α : Type} {T : TypeId} {m : Nat} {f : α → List Value} (hm : ∀ x, (f x).length = m) {w : World} {B g cap : Nat} {l : List α} {cur : Array Value} (hg : w.heap[g]? = some (.cells cur T (0, 0))) (hB : B ≤ g) (hcap : l.length ≤ cap) (hmax : cap ≤ maxLen) (hsz : cur.size = cap * m)
    (hc : ∀ j x i v, l[j]? = some x → (f x)[i]? = some v → w.cell? ⟨g, j * m + i, none⟩ = some v) : OwnR T m f w B (.slice (some ⟨g, 0, none⟩) l.length cap) l := by
  refine ⟨flat_length hm l, .inr ⟨g, cap, cur, rfl, hB, hg, hcap, hmax, hsz, ?_⟩⟩
  have hlen : (cur.toList.take (l.length * m)).length = (flt f l).length := by
    have h1 := Nat.mul_le_mul_right m hcap
    have h2 : cur.toList.length = cap * m := by simpa using hsz
    rw [List.length_take, flat_length hm, h2]
    omega
  refine List.ext_getElem? fun p => ?_
  by_cases hp : p < (flt f l).length
  · have := flat_all hm (Q := fun p u => w.cell? ⟨g, p, none⟩ = some u) l hc p _ (List.getElem?_eq_getElem hp)
    rw [cell_of_row w g p cur T (0, 0) hg] at this
    rw [List.getElem?_eq_getElem hp, List.getElem?_take, if_pos (by rw [← flat_length hm l]; exact hp), Array.getElem?_toList]
    exact this
  · rw [List.getElem?_eq_none (by omega), List.getElem?_eq_none (by omega)]
theorem setCells_block (g : Nat) (T : TypeId) : ∀ (vs : List Value) (o : Nat) (w : World) (cur : Array Value), w.heap[g]? = some (.cells cur T (0, 0)) → ∃ cur', (w.setCells g o vs).heap[g]? = some (.cells cur' T (0, 0)) ∧ cur'.size = cur.size
  | [], _, w, cur, h => ⟨cur, h, rfl⟩
  | v :: r, o, w, cur, h => by
    obtain ⟨c, h1, h2⟩ := setCells_block g T r (o + 1) (w.setCell ⟨g, o, none⟩ v) _ (heap_setCell_same w g o cur T v h)
    exact ⟨c, h1, by rw [h2]; simp⟩
theorem off_setCells (g : Nat) : ∀ (vs : List Value) (o : Nat) (w : World), Off (fun k => k = g) w (w.setCells g o vs)
  | [], _, w => Off.refl _ w
  | v :: r, o, w => (Off.set w g o v).trans (off_setCells g r (o + 1) _)
theorem off_drew {S : Nat → Prop} (w : World) : Off S w w.drew := ⟨rfl, rfl, rfl, Nat.le_refl _, fun _ _ _ => rfl⟩
/-- 'copy' at elements of any number of cells -/
theorem run_copy_cellsK {m : Nat} (w : World) (dT sT ty elem : TypeId) (b o dLen dCap : Nat) (a : Addr) (sLen sCap : Nat) (cs : List Value)
    (hu : Tryz.prog.underlying dT = some (.slice elem)) (hs : (Tryz.prog.info? elem).map (·.size) = some m) (hn : cs.length = Nat.min sLen dLen * m)
    (hsrc : ∀ j v, cs[j]? = some v → w.cell? (a.add j) = some v) (hc : ∀ j, j < cs.length → (w.cell? ⟨b, o + j, none⟩).isSome = true) (hf : ∀ j, j < cs.length → w.frozen? ⟨b, o + j, none⟩ = false) (h1 : ∀ v ∈ cs, v.oneCell' = true) :
    (Builtin.copy_ #[dT, sT] ty #[.slice (some ⟨b, o, none⟩) dLen dCap, .slice (some a) sLen sCap]).run Tryz.prog w = .ok (goInt (Nat.min sLen dLen)) (w.setCells b o cs) := by
  have hl := run_loadCells_list (P := Tryz.prog) w a cs hsrc
  have hst := run_storeCells_cells (P := Tryz.prog) b o cs 0 w (by simpa using hc) (by simpa using hf) h1
  cases hq : Tryz.prog.info? elem with
  | none => simp [hq] at hs
  | some i =>
    have hi : i.size = m := by simpa [hq] using hs
    subst hi
    simp [Builtin.copy_, run_underlying hu, Builtin.lenOf, Builtin.firstCells, sizeOf, typeInfo, hq, ← hn, hl, hst]
/-- 'clear' of one element of any number of cells -/
theorem run_clear_one (w : World) (t e ty : TypeId) (z : Value) (ht : Tryz.prog.underlying t = some (.slice e)) (hv : ∀ w, (zeroValue e).run Tryz.prog w = .ok z w) (h1 : ∀ v ∈ z.cells.toList, v.oneCell' = true) (b o c : Nat)
    (hc : ∀ j, j < z.cells.size → (w.cell? ⟨b, o + j, none⟩).isSome = true) (hf : ∀ j, j < z.cells.size → w.frozen? ⟨b, o + j, none⟩ = false) :
    (Builtin.clear_ #[t] ty #[.slice (some ⟨b, o, none⟩) 1 c]).run Tryz.prog w = .ok (.tuple #[]) (w.setCells b o z.cells.toList) := by
  have hzc : (Builtin.zeroCells z.cells 1).toList = z.cells.toList := by
    simp [Builtin.zeroCells]
    apply List.ext_getElem
    · simp
    · intro i h1 h2
      simp at h1
      simp [Nat.mod_eq_of_lt h1, getElem!_pos z.cells i h1]
  have hst := run_storeCells_cells (P := Tryz.prog) b o z.cells.toList 0 w (by simpa using hc) (by simpa using hf) h1
  simp only [Nat.add_zero] at hst
  simp [Builtin.clear_, run_underlying ht, hv, hzc, hst]
theorem erase_get {α : Type} (l : List α) (k j : Nat) : (l.eraseIdx k)[j]? = if j < k then l[j]? else l[j + 1]? := by
  rw [List.getElem?_eraseIdx]

end Go.Proofs.YtebldfnocpcddaaGreatDoor

/-
  Parameters of type api.DDL and []api.DDL, opened; a change in its box; catalogs of the call's own.
-/
namespace Go.Proofs.YtebldfnocpcddaaGreatDoor
open Go.RowKit Go.WideShapes

/-- a change in memory -/
structure Db where
  p : Dp
  A : Option Addr
  cap : Nat
def fD (d : Db) : List Value := [.int .i64 d.p.op, .string d.p.tb, .string d.p.co, .string d.p.to, .string d.p.key, .int .i64 d.p.tk, .int .i64 d.p.tm, .bool d.p.nl, .int .i64 d.p.dk, .int .i64 d.p.dn, .string d.p.ds, .slice d.A d.p.cols.length d.cap]
abbrev DV (d : Db) : Value := .agg #[.int .i64 d.p.op, .string d.p.tb, .string d.p.co, .string d.p.to, .string d.p.key, .int .i64 d.p.tk, .int .i64 d.p.tm, .bool d.p.nl, .int .i64 d.p.dk, .int .i64 d.p.dn, .string d.p.ds, .slice d.A d.p.cols.length d.cap]
theorem lenD (d : Db) : (fD d).length = 12 := rfl
instance : Inhabited Db := ⟨⟨⟨0, ByteArray.empty, ByteArray.empty, ByteArray.empty, ByteArray.empty, 0, 0, false, 0, 0, ByteArray.empty, []⟩, none, 0⟩⟩
/-- what of a change lies elsewhere; rows of changes -/
def DdlAt (w : World) (B : Nat) (d : Db) : Prop := ColsAt w B d.A d.p.cols
def DdlsAt (w : World) (B : Nat) (A : Option Addr) (l : List Db) : Prop := RowAt 12 fD w B A l ∧ ∀ d ∈ l, DdlAt w B d
theorem DdlAt.to {w w' : World} {d : Db} (h : DdlAt w w.heap.size d) (hb : Below w.heap.size w w') : DdlAt w' w'.heap.size d := RowAt.to h hb
theorem DdlsAt.to {w w' : World} {A : Option Addr} {l : List Db} (h : DdlsAt w w.heap.size A l) (hb : Below w.heap.size w w') : DdlsAt w' w'.heap.size A l := ⟨h.1.to hb, fun d hd => RowAt.to (h.2 d hd) hb⟩
/-- what is known of a change that comes in -/
def InD (w : World) (d : Db) : Prop := (Lit.int .i64 d.p.op).wf = true ∧ d.p.tb.size ≤ maxLen ∧ d.p.co.size ≤ maxLen ∧ d.p.to.size ≤ maxLen ∧ d.p.key.size ≤ maxLen ∧ (Lit.int .i64 d.p.tk).wf = true ∧ (Lit.int .i64 d.p.tm).wf = true ∧
  (Lit.int .i64 d.p.dk).wf = true ∧ (Lit.int .i64 d.p.dn).wf = true ∧ d.p.ds.size ≤ maxLen ∧ d.p.cols.length ≤ maxLen ∧ d.p.cols.length ≤ d.cap ∧ DdlAt w w.heap.size d ∧ ∀ c ∈ d.p.cols, InC c
set_option maxRecDepth 100000 in
theorem q_ddl : Tryz.prog.cellsOf 28 = 12 := by kernel_rfl
set_option maxRecDepth 100000 in
set_option maxHeartbeats 1000000 in
theorem ddl_of {H : Type} {enc : TypeId × Value → H} {W : World} {sp : Nat → Bool} (fuel : Nat) (cs : List Value) (y : DataW H × List MemPlace)
    (h : DataW.trod enc Tryz.prog W 0 sp true fuel 28 cs = some y) : ∃ d : Db, cs = fD d ∧ InD W d := by
  obtain ⟨xs, n', _, _, hl, hlen, hf⟩ := DataW.trod_struct Tryz.underlying28 h
  rw [q_ddl] at hl
  match xs, hlen with
  | [y0, y1, y2, y3, y4, y5, y6, y7, y8], _ =>
    match cs, hl with
    | [c0, c1, c2, c3, c4, c5, c6, c7, c8, c9, c10, c11], _ =>
      have t0 := hf 0 _ rfl
      have t1 := hf 1 _ rfl
      have t2 := hf 2 _ rfl
      have t3 := hf 3 _ rfl
      have t4 := hf 4 _ rfl
      have t5 := hf 5 _ rfl
      have t6 := hf 6 _ rfl
      have t7 := hf 7 _ rfl
      have t8 := hf 8 _ rfl
      simp [q_int, q_string, q_cols, q_bool, q_type, cellsV] at t0 t1 t2 t3 t4 t5 t6 t7 t8
      obtain ⟨i, r0, _, w0⟩ := DataW.trod_int Tryz.underlying3 t0
      obtain ⟨s1, r1, _, w1⟩ := DataW.trod_string Tryz.underlying9 t1
      obtain ⟨s2, r2, _, w2⟩ := DataW.trod_string Tryz.underlying9 t2
      obtain ⟨s3, r3, _, w3⟩ := DataW.trod_string Tryz.underlying9 t3
      obtain ⟨s4, r4, _, w4⟩ := DataW.trod_string Tryz.underlying9 t4
      obtain ⟨k, m, rfl, rfl, w5, w6⟩ := typ_of t5
      obtain ⟨b, r6, _⟩ := DataW.trod_bool Tryz.underlying4 t6
      obtain ⟨dk, dn, ds, rfl, rfl, rfl, w7, w8, w9⟩ := val_of t7
      obtain ⟨a, len, cap, rfl, l, rfl, hl1, hlc, hl2, hl3⟩ := row_open Tryz.underlying26 q_col col_of (fun a => ⟨_, rfl⟩) t8
      simp at r0 r1 r2 r3 r4 r6
      subst r0 r1 r2 r3 r4 r6
      exact ⟨⟨⟨i, s1, s2, s3, s4, k, m, b, dk, dn, ds, l⟩, a, cap⟩, rfl, w0, w1, w2, w3, w4, w5, w6, w7, w8, w9, hl1, hlc, hl2, hl3⟩
set_option maxRecDepth 100000 in
theorem openDDL {H : Type} {enc : TypeId × Value → H} {W : World} {base : Nat} {v : Value} {d : DataW H} {p : List MemPlace} {sp : Nat → Bool}
    (hv : Value.okWide Tryz.prog W .any base 28 v) (h : DataW.Trod enc Tryz.prog W 0 sp true 28 v d p) : ∃ d : Db, v = DV d ∧ InD W d := by
  obtain ⟨cs, rfl, _⟩ := okWide_struct Tryz.underlying28 hv
  obtain ⟨fuel, hf⟩ := h
  obtain ⟨t, h1, h2⟩ := ddl_of _ _ _ hf
  refine ⟨t, ?_, h2⟩
  simp only [Value.cells] at h1
  show Value.agg cs = Value.agg (fD t).toArray
  rw [← h1]
def DdlsIn (w : World) (A : Option Addr) (cap : Nat) (l : List Db) : Prop := l.length ≤ maxLen ∧ l.length ≤ cap ∧ DdlsAt w w.heap.size A l ∧ ∀ d ∈ l, InD w d
/-! ### Catalogs of the call's own -/
/-- the block of a table's columns -/
abbrev colBk (t : Tb) : Option Nat := (Value.slice t.A t.cols.length t.cap).ownBlock
/-- the row of tables lies from block B on, ahead of Bc; the rows of columns from Bc on, each in a block of its own -/
structure OwnCat (w : World) (B Bc : Nat) (v : Value) (l : List Tb) : Prop where
  row : OwnTb w B v l
  ahead : ∀ k, v.ownBlock = some k → k < Bc
  base : B ≤ Bc
  cols : ∀ t ∈ l, OwnC w Bc (.slice t.A t.cols.length t.cap) t.cols
  apart : ∀ (i j : Nat) s t, l[i]? = some s → l[j]? = some t → i ≠ j → ∀ k, colBk s = some k → colBk t ≠ some k
/-- the blocks of a catalog of the call's own -/
def InCat (v : Value) (l : List Tb) (k : Nat) : Prop := v.ownBlock = some k ∨ ∃ t ∈ l, colBk t = some k
theorem OwnCat.lt {w : World} {B Bc : Nat} {v : Value} {l : List Tb} (h : OwnCat w B Bc v l) : ∀ k, InCat v l k → B ≤ k ∧ k < w.heap.size := fun k hk => by
  rcases hk with hk | ⟨t, ht, hk⟩
  · exact h.row.lt k hk
  · have := (h.cols t ht).lt k hk
    have := h.base
    exact ⟨by omega, by omega⟩
theorem OwnCat.to_off {S : Nat → Prop} {w w' : World} {B Bc : Nat} {v : Value} {l : List Tb} (h : OwnCat w B Bc v l) (hw : Off S w w') (hn : ∀ k, InCat v l k → ¬ S k) : OwnCat w' B Bc v l :=
  ⟨h.row.off hw fun k hk => hn k (.inl hk), h.ahead, h.base, fun t ht => (h.cols t ht).off hw fun k hk => hn k (.inr ⟨t, ht, hk⟩), h.apart⟩
theorem OwnCat.below {w w' : World} {B Bc : Nat} {v : Value} {l : List Tb} (h : OwnCat w B Bc v l) (hb : Below w.heap.size w w') : OwnCat w' B Bc v l := h.to_off (S := fun _ => False) (.of_below hb) fun _ _ e => e
theorem OwnCat.mono' {w : World} {B B' Bc : Nat} {v : Value} {l : List Tb} (h : OwnCat w B Bc v l) (hb : B' ≤ B) : OwnCat w B' Bc v l := ⟨h.row.mono hb, h.ahead, Nat.le_trans hb h.base, h.cols, h.apart⟩
theorem OwnCat.at {w : World} {B Bc : Nat} {A : Option Addr} {n cap : Nat} {l : List Tb} (h : OwnCat w B Bc (.slice A n cap) l) : TabsAt w w.heap.size A l := ⟨h.row.at lenT, fun t ht => (h.cols t ht).at lenC⟩
theorem OwnCat.below_of {w w' : World} {B Bc : Nat} {v : Value} {l : List Tb} (h : OwnCat w B Bc v l) (hw : Off (InCat v l) w w') (hB : B ≤ w.heap.size) : Below B w w' := hw.below (fun k _ hk => (h.lt k hk).1) hB
/-- one table changed, its columns with it: the others stay -/
theorem OwnCat.set {w w' : World} {B Bc B2 g n cap : Nat} {l : List Tb} {k : Nat} {t t' : Tb} (h : OwnCat w B Bc (.slice (some ⟨g, 0, none⟩) n cap) l) (hk : l[k]? = some t)
    (hrow : OwnTb w' B (.slice (some ⟨g, 0, none⟩) n cap) (l.set k t')) (hcol : OwnC w' B2 (.slice t'.A t'.cols.length t'.cap) t'.cols)
    (hw : Off (fun x => x = g ∨ colBk t = some x) w w') : TabsAt w' w'.heap.size (some ⟨g, 0, none⟩) (l.set k t') := by
  refine ⟨hrow.at lenT, fun s hs => ?_⟩
  obtain ⟨j, hj⟩ := List.mem_iff_getElem?.1 hs
  rw [List.getElem?_set] at hj
  split at hj
  · split at hj
    · cases hj; exact hcol.at lenC
    · cases hj
  · rename_i e
    have hsm := List.mem_of_getElem? hj
    refine ((h.cols s hsm).off hw fun x hx e' => ?_).at lenC
    rcases e' with e' | e'
    · subst e'
      have := (h.cols s hsm).lt x hx
      have := h.ahead x rfl
      omega
    · exact h.apart j k s t hj hk (fun q => e q.symm) x hx e'
/-- a table in its box -/
theorem OwnCat.box {w : World} {b : Nat} {t : Tb} (h : OwnTb w b (.slice (some ⟨b, 0, none⟩) 1 1) [t]) (hc : OwnC w (b + 1) (.slice t.A t.cols.length t.cap) t.cols) : OwnCat w b (b + 1) (.slice (some ⟨b, 0, none⟩) 1 1) [t] :=
  ⟨h, fun k hk => by simp [Value.ownBlock] at hk; omega, by omega, fun s hs => by simp at hs; subst hs; exact hc, fun i j s u hi hj hne => by
    cases i with
    | succ i => simp at hi
    | zero =>
      cases j with
      | succ j => simp at hj
      | zero => exact absurd rfl hne⟩
end Go.Proofs.YtebldfnocpcddaaGreatDoor

/-
  Contract of package ddl's clone: a catalog of the call's own.
-/
namespace Go.Proofs.YtebldfnocpcddaaGreatDoor
open Go.RowKit

/-- the first k tables have columns of the call's own -/
structure Part (w : World) (B Bc : Nat) (v : Value) (l m : List Tb) (k : Nat) : Prop where
  len : m.length = k
  same : m.map Tb.p = (l.take k).map Tb.p
  row : OwnTb w B v (m ++ l.drop k)
  cols : ∀ t ∈ m, OwnC w Bc (.slice t.A t.cols.length t.cap) t.cols
  apart : ∀ (i j : Nat) s t, m[i]? = some s → m[j]? = some t → i ≠ j → ∀ x, colBk s = some x → colBk t ≠ some x
theorem Part.step {w w2 : World} {B Bc g n cap k : Nat} {l m : List Tb} {t t' : Tb} (h : Part w B Bc (.slice (some ⟨g, 0, none⟩) n cap) l m k) (hn : n = l.length) (hk : l[k]? = some t) (hgB : g < Bc) (hBw : Bc ≤ w.heap.size) (hb : Below w.heap.size w w2)
    (hc : OwnC w2 w.heap.size (.slice t'.A t'.cols.length t'.cap) t'.cols) (hp : t'.p = t.p) :
    Part (w2.setCell ⟨g, k * 5 + 4, none⟩ (.slice t'.A t'.cols.length t'.cap)) B Bc (.slice (some ⟨g, 0, none⟩) n cap) l (m ++ [t']) (k + 1) := by
  have hkl := (List.getElem?_eq_some_iff.1 hk).1
  have hO := Off.set w2 g (k * 5 + 4) (.slice t'.A t'.cols.length t'.cap)
  have hgw : g < w.heap.size := by omega
  have hd : l.drop k = t :: l.drop (k + 1) := by rw [← List.getElem_cons_drop hkl]; congr 1; exact (List.getElem?_eq_some_iff.1 hk).2
  have hml := h.len
  refine ⟨by simp [hml], ?_, ?_, fun s hs => ?_, fun i j s u hi hj hne x hx hy => ?_⟩
  · rw [List.map_append, h.same, List.take_add_one, hk]
    simp [hp]
  · have hrow := h.row.below hb
    have hlen : (m ++ l.drop k).length = n := by rw [List.length_append, List.length_drop, hml, hn]; omega
    have e : m ++ [t'] ++ l.drop (k + 1) = (m ++ l.drop k).set k t' := by
      rw [List.set_append_right _ _ (by omega), hml, Nat.sub_self, hd]; simp
    rw [e]
    rw [← hlen] at hrow ⊢
    obtain ⟨e1, e2, e3, e4⟩ : t'.id = t.id ∧ t'.nm = t.nm ∧ t'.key = t.key ∧ t'.nx = t.nx := by
      unfold Tb.p at hp
      simp only [Tp.mk.injEq] at hp
      exact ⟨hp.1, hp.2.1, hp.2.2.1, hp.2.2.2.1⟩
    exact hrow.set1 lenT (k := k) (i := 4) (x := t) (by rw [List.getElem?_append_right (by omega), hml, Nat.sub_self, hd]; rfl) (by omega) (by simp [fT, e1, e2, e3, e4])
  · rcases List.mem_append.1 hs with h1 | h1
    · refine ((h.cols s h1).below hb).off hO fun x hx e => ?_
      have := ((h.cols s h1).lt x hx).1
      omega
    · obtain rfl : s = t' := by simpa using h1
      refine (hc.off hO fun x hx e => ?_).mono hBw
      have := (hc.lt x hx).1
      omega
  · have get : ∀ (j : Nat) s, (m ++ [t'])[j]? = some s → (j = k ∧ s = t') ∨ (j < k ∧ m[j]? = some s) := fun j s hj => by
      by_cases hjk : j < k
      · rw [List.getElem?_append_left (by omega)] at hj
        exact .inr ⟨hjk, hj⟩
      · rw [List.getElem?_append_right (by omega)] at hj
        have h1 := (List.getElem?_eq_some_iff.1 hj).1
        simp at h1
        have : j = k := by omega
        subst this
        rw [hml, Nat.sub_self] at hj
        simp at hj
        exact .inl ⟨rfl, hj.symm⟩
    have old : ∀ (j : Nat) s, m[j]? = some s → ∀ x, colBk s = some x → x < w.heap.size := fun j s hj x hx => ((h.cols s (List.mem_of_getElem? hj)).lt x hx).2
    rcases get i s hi with ⟨rfl, rfl⟩ | ⟨h1, hi'⟩
    · rcases get j u hj with ⟨rfl, rfl⟩ | ⟨h2, hj'⟩
      · exact hne rfl
      · have := old j u hj' x hy
        have := (hc.lt x hx).1
        omega
    · rcases get j u hj with ⟨rfl, rfl⟩ | ⟨h2, hj'⟩
      · have := old i s hi' x hx
        have := (hc.lt x hy).1
        omega
      · exact h.apart i j s u hi' hj' hne x hx hy
theorem Part.done {w : World} {B Bc : Nat} {v : Value} {l m : List Tb} {k : Nat} (h : Part w B Bc v l m k) (hk : k = l.length) (hv : ∀ x, v.ownBlock = some x → x < Bc) (hB : B ≤ Bc) : OwnCat w B Bc v m ∧ m.map Tb.p = l.map Tb.p ∧ m.length = l.length := by
  subst hk
  have := h.row
  rw [List.drop_length, List.append_nil] at this
  exact ⟨⟨this, hv, hB, h.cols, h.apart⟩, by rw [h.same, List.take_length], h.len⟩
theorem Part.to {w w' : World} {B Bc : Nat} {v : Value} {l m : List Tb} {k : Nat} (h : Part w B Bc v l m k) (hb : Below w.heap.size w w') : Part w' B Bc v l m k :=
  ⟨h.len, h.same, h.row.below hb, fun t ht => (h.cols t ht).below hb, h.apart⟩
theorem Part.zero {w : World} {B Bc : Nat} {v : Value} {l : List Tb} (h : OwnTb w B v l) : Part w B Bc v l [] 0 :=
  ⟨rfl, rfl, by simpa using h, fun t ht => by simp at ht, fun i j s t hi => by simp at hi⟩
theorem bput {B g : Nat} {w w' : World} (h : Below B w w') (hg : B ≤ g) (j : Nat) (v : Value) : Below B w (w'.setCell ⟨g, j, none⟩ v) := h.setCell (p := ⟨g, j, none⟩) hg v
theorem box_one' (w : World) (v : Value) (ty : TypeId) : ∃ w0, w.alloc (.cells #[v] ty) = w0 ∧ Below w.heap.size w w0 ∧ w0.cell? ⟨w.heap.size, 0, none⟩ = some v ∧ w0.heap.size = w.heap.size + 1 :=
  ⟨_, rfl, below_one w _, by simp, by simp⟩
end Go.Proofs.YtebldfnocpcddaaGreatDoor

/-
  Contracts of package ddl's small functions.
-/
namespace Go.Proofs.YtebldfnocpcddaaGreatDoor
open Go.RowKit

theorem box_tv (w : World) (tk tm k n : Int) (s : ByteArray) : ∃ w0, (w.alloc (.cells #[.int .i64 tk, .int .i64 tm] 23)).alloc (.cells #[.int .i64 k, .int .i64 n, .string s] 25) = w0 ∧ Below w.heap.size w w0 ∧ w0.heap.size = w.heap.size + 2 ∧
    w0.cell? ⟨w.heap.size, 0, none⟩ = some (.int .i64 tk) ∧ w0.cell? ⟨w.heap.size, 1, none⟩ = some (.int .i64 tm) ∧ w0.cell? ⟨w.heap.size + 1, 0, none⟩ = some (.int .i64 k) ∧ w0.cell? ⟨w.heap.size + 1, 1, none⟩ = some (.int .i64 n) ∧ w0.cell? ⟨w.heap.size + 1, 2, none⟩ = some (.string s) :=
  ⟨_, rfl, below_two w _ _, by simp, keep_alloc (by simp) _, keep_alloc (by simp) _, by simp, by simp, by simp⟩
theorem fst_bool (o : Option Nat) : ∃ i : Int, fstV o = .tuple #[.int .i64 i, .bool o.isSome] := by
  cases o with
  | none => exact ⟨0, rfl⟩
  | some k => exact ⟨k, rfl⟩
theorem countP_take {α : Type} (p : α → Bool) (l : List α) (k : Nat) (x : α) (hx : l[k]? = some x) : (l.take (k + 1)).countP p = (l.take k).countP p + (if p x then 1 else 0) := by
  rw [List.take_add_one, hx, List.countP_append]
  simp [List.countP_cons]
end Go.Proofs.YtebldfnocpcddaaGreatDoor

/-
  Contract of package ddl's appendColumn.
-/
namespace Go.Proofs.YtebldfnocpcddaaGreatDoor
open Go.RowKit

/-- why a column may not be added to a table; 0 -/
def acolE (l : List Cb) (c : Cb) : Int :=
  if rightN (bs c.nm) = true then (if (colP l c.nm).isSome = true then 14 else if rightT c.tk c.tm = true then (if presetD c.tk c.tm c.dk c.dn c.ds = true then 0 else 10) else 9) else 8
theorem UTab.off {S : Nat → Prop} {w w' : World} (h : UTab w) (hw : Off S w w') (h1 : ¬ S 5) (h2 : ¬ S 6) : UTab w' :=
  ⟨fun i hi => hw.keep (h.1 i hi) h1, fun i hi => hw.keep (h.2 i hi) h2⟩
theorem rowat_new {α : Type} {m : Nat} {f : α → List Value} (w : World) (x : α) (ty : TypeId) : RowAt m f (w.alloc (.cells (f x).toArray ty)) (w.alloc (.cells (f x).toArray ty)).heap.size (some ⟨w.heap.size, 0, none⟩) [x] := fun _ =>
  ⟨w.heap.size, 0, rfl, by simp, fun j y hj i v hv => by
    cases j with
    | succ j => simp at hj
    | zero =>
      simp at hj; subst hj
      simp [hv]⟩
/-- a table with one column more -/
def Tb.more (t : Tb) (A : Option Addr) (cap : Nat) (c : Cb) : Tb := ⟨t.id, t.nm, t.key, t.nx + 1, A, cap, t.cols ++ [{ c with id := t.nx }]⟩
theorem tab_cells {w : World} {B g cap k : Nat} {l : List Tb} {t : Tb} (h : OwnTb w B (.slice (some ⟨g, 0, none⟩) l.length cap) l) (hk : l[k]? = some t) :
    w.cell? ⟨g, k * 5, none⟩ = some (.int .i64 t.id) ∧ w.cell? ⟨g, k * 5 + 1, none⟩ = some (.string t.nm) ∧ w.cell? ⟨g, k * 5 + 2, none⟩ = some (.int .i64 t.key) ∧ w.cell? ⟨g, k * 5 + 3, none⟩ = some (.int .i64 t.nx) ∧ w.cell? ⟨g, k * 5 + 4, none⟩ = some (.slice t.A t.cols.length t.cap) :=
  ⟨h.cell lenT (i := 0) hk rfl, h.cell lenT (i := 1) hk rfl, h.cell lenT (i := 2) hk rfl, h.cell lenT (i := 3) hk rfl, h.cell lenT (i := 4) hk rfl⟩
theorem col_cells {w : World} {B g cap k n : Nat} {l : List Cb} {c : Cb} (h : OwnC w B (.slice (some ⟨g, 0, none⟩) n cap) l) (hn : n = l.length) (hk : l[k]? = some c) :
    w.cell? ⟨g, k * 8, none⟩ = some (.int .i64 c.id) ∧ w.cell? ⟨g, k * 8 + 1, none⟩ = some (.string c.nm) ∧ w.cell? ⟨g, k * 8 + 2, none⟩ = some (.int .i64 c.tk) ∧ w.cell? ⟨g, k * 8 + 3, none⟩ = some (.int .i64 c.tm) ∧
    w.cell? ⟨g, k * 8 + 4, none⟩ = some (.bool c.nl) ∧ w.cell? ⟨g, k * 8 + 5, none⟩ = some (.int .i64 c.dk) ∧ w.cell? ⟨g, k * 8 + 6, none⟩ = some (.int .i64 c.dn) ∧ w.cell? ⟨g, k * 8 + 7, none⟩ = some (.string c.ds) := by
  subst hn
  exact ⟨h.cell lenC (i := 0) hk rfl, h.cell lenC (i := 1) hk rfl, h.cell lenC (i := 2) hk rfl, h.cell lenC (i := 3) hk rfl, h.cell lenC (i := 4) hk rfl, h.cell lenC (i := 5) hk rfl, h.cell lenC (i := 6) hk rfl, h.cell lenC (i := 7) hk rfl⟩
/-- a column in its box -/
theorem box_colO (w : World) (c : Cb) : ∃ w0, w.alloc (.cells #[.int .i64 c.id, .string c.nm, .int .i64 c.tk, .int .i64 c.tm, .bool c.nl, .int .i64 c.dk, .int .i64 c.dn, .string c.ds] 56) = w0 ∧ Below w.heap.size w w0 ∧ OwnC w0 w.heap.size (.slice (some ⟨w.heap.size, 0, none⟩) 1 1) [c] ∧ w0.heap.size = w.heap.size + 1 :=
  ⟨_, rfl, below_one w _, OwnR.box _ _ fC lenC w c, by simp⟩
theorem one_cells {w : World} {B g : Nat} {c : Cb} (h : OwnC w B (.slice (some ⟨g, 0, none⟩) 1 1) [c]) :
    w.cell? ⟨g, 0, none⟩ = some (.int .i64 c.id) ∧ w.cell? ⟨g, 1, none⟩ = some (.string c.nm) ∧ w.cell? ⟨g, 2, none⟩ = some (.int .i64 c.tk) ∧ w.cell? ⟨g, 3, none⟩ = some (.int .i64 c.tm) ∧
    w.cell? ⟨g, 4, none⟩ = some (.bool c.nl) ∧ w.cell? ⟨g, 5, none⟩ = some (.int .i64 c.dk) ∧ w.cell? ⟨g, 6, none⟩ = some (.int .i64 c.dn) ∧ w.cell? ⟨g, 7, none⟩ = some (.string c.ds) := by
  have := col_cells (k := 0) h rfl rfl
  simpa using this
end Go.Proofs.YtebldfnocpcddaaGreatDoor

/-
  Contracts of package ddl's rename and add.
-/
namespace Go.Proofs.YtebldfnocpcddaaGreatDoor
open Go.RowKit

/-- a change in its box -/
theorem box_ddl (w : World) (d : Db) : ∃ w0, w.alloc (.cells #[.int .i64 d.p.op, .string d.p.tb, .string d.p.co, .string d.p.to, .string d.p.key, .int .i64 d.p.tk, .int .i64 d.p.tm, .bool d.p.nl, .int .i64 d.p.dk, .int .i64 d.p.dn, .string d.p.ds, .slice d.A d.p.cols.length d.cap] 28) = w0 ∧ Below w.heap.size w w0 ∧ BlkN w0 w.heap.size (fD d) ∧ w0.heap.size = w.heap.size + 1 :=
  ⟨_, rfl, below_one w _, BlkN.new w _ (fD d) _ rfl, by simp⟩
theorem BlkN.ddl {w : World} {b : Nat} {d : Db} (h : BlkN w b (fD d)) : w.cell? ⟨b, 0, none⟩ = some (.int .i64 d.p.op) ∧ w.cell? ⟨b, 1, none⟩ = some (.string d.p.tb) ∧ w.cell? ⟨b, 2, none⟩ = some (.string d.p.co) ∧ w.cell? ⟨b, 3, none⟩ = some (.string d.p.to) ∧ w.cell? ⟨b, 4, none⟩ = some (.string d.p.key) ∧
    w.cell? ⟨b, 5, none⟩ = some (.int .i64 d.p.tk) ∧ w.cell? ⟨b, 6, none⟩ = some (.int .i64 d.p.tm) ∧ w.cell? ⟨b, 7, none⟩ = some (.bool d.p.nl) ∧ w.cell? ⟨b, 8, none⟩ = some (.int .i64 d.p.dk) ∧ w.cell? ⟨b, 9, none⟩ = some (.int .i64 d.p.dn) ∧ w.cell? ⟨b, 10, none⟩ = some (.string d.p.ds) ∧ w.cell? ⟨b, 11, none⟩ = some (.slice d.A d.p.cols.length d.cap) :=
  ⟨h 0 _ rfl, h 1 _ rfl, h 2 _ rfl, h 3 _ rfl, h 4 _ rfl, h 5 _ rfl, h 6 _ rfl, h 7 _ rfl, h 8 _ rfl, h 9 _ rfl, h 10 _ rfl, h 11 _ rfl⟩
/-- why a table may not be called otherwise -/
def renE (l : List Tb) (s : ByteArray) : Int := if rightN (bs s) = true then (if (l.findIdx? fun x => eqS x.nm s).isSome = true then 14 else 0) else 8
/-- the column of a change -/
def Dp.col (d : Dp) : Cb := ⟨0, d.co, d.tk, d.tm, d.nl, d.dk, d.dn, d.ds⟩
theorem addE_acol {t : Tb} {d : Dp} (h1 : t.cols.length ≤ 10) (h2 : t.nx ≤ 200) (h3 : ¬ (t.cols.length = 10 ∨ t.nx = 200)) :
    addE t.p d = if acolE t.cols d.col = 0 then (if d.nl = false ∧ nulV d.dk d.dn d.ds = true then 11 else 0) else acolE t.cols d.col := by
  unfold addE acolE
  rw [if_neg (show ¬ (10 ≤ t.p.cols.length ∨ 200 ≤ t.p.nx) by show ¬ (10 ≤ t.cols.length ∨ 200 ≤ t.nx); omega)]
  show (if rightN (bs d.co) = true then (if (colP t.cols d.co).isSome = true then 14 else if rightT d.tk d.tm = true then (if presetD d.tk d.tm d.dk d.dn d.ds = true then (if d.nl = false ∧ nulV d.dk d.dn d.ds = true then 11 else 0) else 10) else 9) else 8) =
    if (if rightN (bs d.co) = true then (if (colP t.cols d.co).isSome = true then 14 else if rightT d.tk d.tm = true then (if presetD d.tk d.tm d.dk d.dn d.ds = true then 0 else 10) else 9) else 8) = (0 : Int) then _ else (if rightN (bs d.co) = true then (if (colP t.cols d.co).isSome = true then 14 else if rightT d.tk d.tm = true then (if presetD d.tk d.tm d.dk d.dn d.ds = true then 0 else 10) else 9) else 8)
  cases rightN (bs d.co) <;> cases (colP t.cols d.co).isSome <;> cases rightT d.tk d.tm <;> cases presetD d.tk d.tm d.dk d.dn d.ds <;> rfl
end Go.Proofs.YtebldfnocpcddaaGreatDoor

/-
  Contracts of package ddl's partsOf, withId and Plain.
-/
namespace Go.Proofs.YtebldfnocpcddaaGreatDoor
open Go.RowKit

/-- the parts of a change that are compared at once -/
structure Pp where
  op : Int
  tb : ByteArray
  co : ByteArray
  «to» : ByteArray
  key : ByteArray
  tk : Int
  tm : Int
  nl : Bool
  dk : Int
  dn : Int
  ds : ByteArray
  n : Int
abbrev PV (p : Pp) : Value := .agg #[.int .i64 p.op, .string p.tb, .string p.co, .string p.to, .string p.key, .int .i64 p.tk, .int .i64 p.tm, .bool p.nl, .int .i64 p.dk, .int .i64 p.dn, .string p.ds, .int .i64 p.n]
def eqP (a b : Pp) : Bool := (a.op == b.op) && (eqS a.tb b.tb && (eqS a.co b.co && (eqS a.to b.to && (eqS a.key b.key && ((a.tk == b.tk) && ((a.tm == b.tm) && ((a.nl == b.nl) && ((a.dk == b.dk) && ((a.dn == b.dn) && (eqS a.ds b.ds && (a.n == b.n)))))))))))
set_option maxRecDepth 100000 in
set_option maxHeartbeats 1000000 in
theorem run_eql_P (w : World) (a b : Pp) : (binOp .eql 72 (PV a) (PV b)).run Tryz.prog w = .ok (.bool (eqP a b)) w := by
  unfold eqP
  cases h0 : (a.op == b.op)
  · simp [go_sem, h0]
  cases h1 : (a.tb.toList == b.tb.toList)
  · simp [go_sem, h0, h1]
  cases h2 : (a.co.toList == b.co.toList)
  · simp [go_sem, h0, h1, h2]
  cases h3 : (a.to.toList == b.to.toList)
  · simp [go_sem, h0, h1, h2, h3]
  cases h4 : (a.key.toList == b.key.toList)
  · simp [go_sem, h0, h1, h2, h3, h4]
  cases h5 : (a.tk == b.tk)
  · simp [go_sem, h0, h1, h2, h3, h4, h5]
  cases h6 : (a.tm == b.tm)
  · simp [go_sem, h0, h1, h2, h3, h4, h5, h6]
  cases h7 : (a.nl == b.nl)
  · simp [go_sem, h0, h1, h2, h3, h4, h5, h6, h7]
  cases h8 : (a.dk == b.dk)
  · simp [go_sem, h0, h1, h2, h3, h4, h5, h6, h7, h8]
  cases h9 : (a.dn == b.dn)
  · simp [go_sem, h0, h1, h2, h3, h4, h5, h6, h7, h8, h9]
  cases h10 : (a.ds.toList == b.ds.toList)
  · simp [go_sem, h0, h1, h2, h3, h4, h5, h6, h7, h8, h9, h10]
  cases h11 : (a.n == b.n)
  · simp [go_sem, h0, h1, h2, h3, h4, h5, h6, h7, h8, h9, h10, h11]
  simp [go_sem, h0, h1, h2, h3, h4, h5, h6, h7, h8, h9, h10, h11]
def Db.parts (d : Db) : Pp := ⟨d.p.op, d.p.tb, d.p.co, d.p.to, d.p.key, d.p.tk, d.p.tm, d.p.nl, d.p.dk, d.p.dn, d.p.ds, (d.p.cols.length : Int)⟩
set_option maxRecDepth 100000 in
theorem parts_any (d : Db) (w : World) : Calls Tryz.prog 38 #[DV d] w fun e w' => e = .returned (PV d.parts) ∧ Below w.heap.size w w' := by
  go_enter Tryz.func38, Tryz.ntmps38
  go_wp2_with fail
  go_returns
  exact ⟨rfl, by go_grown⟩
set_option maxRecDepth 100000 in
set_option maxHeartbeats 1000000 in
theorem withId_any (A : Option Addr) (cp : Nat) (l : List Cb) (w : World) (hA : ColsAt w w.heap.size A l) (hl : l.length ≤ 1000000) :
    Calls Tryz.prog 39 #[.slice A l.length cp] w fun e w' => e = .returned (.int .i64 ((l.countP fun c => c.id != 0 : Nat) : Int)) ∧ Below w.heap.size w w' := by
  have HA := Lib.hid hA; clear hA
  go_enter Tryz.func39, Tryz.ntmps39
  go_wp2_with fail
  go_loopw [3, 8] (fun v i wr => ∃ k : Nat, k ≤ l.length ∧ i = .int .i64 k ∧ v = .int .i64 (((l.take k).countP fun c => c.id != 0 : Nat) : Int) ∧ Hid (Below w.heap.size w wr)) (fun _ i _ => l.length - (intOf i).toNat)
  case atStart => exact ⟨0, by omega, rfl, by simp, Below.refl _ _⟩
  case round =>
    obtain ⟨k, hk, rfl, rfl, hb⟩ := hrel
    by_cases hlt : k < l.length
    · obtain ⟨c, hc⟩ : ∃ c, l[k]? = some c := ⟨l[k], by simp [hlt]⟩
      have Hn := Lib.hid (countP_take (fun c : Cb => c.id != 0) l k c hc)
      have hle : (l.take k).countP (fun c : Cb => c.id != 0) ≤ k := Nat.le_trans List.countP_le_length (by rw [List.length_take]; omega)
      obtain ⟨b, off, rfl, hbB, d0, d1, d2, d3, d4, d5, d6, d7⟩ := ColsAt.get (RowAt.below HA.out hb.out) k c hc
      obtain ⟨w2, hw2, hb2, hX, hs2⟩ := box_col wr c
      have Hw2 := Lib.hid hw2; clear hw2
      have Hb2 := Lib.hid (bthen hb.out hb2); clear hb2 hX hs2 hc
      generalize (l.take k).countP (fun c : Cb => c.id != 0) = q at Hn hle ⊢
      cases hz : c.id != 0
      · have hd := hz
        rw [hz] at Hn
        clear hd
        go_wp2_with fail
        rw [Hw2.out]
        go_round
        case rel => exact ⟨k + 1, by omega, by go_num, by rw [Hn.out]; go_num, Hb2.out⟩
        case measure => simp [intOf]; omega
      · rw [hz] at Hn
        go_wp2_with fail
        rw [Hw2.out]
        go_round
        case rel => exact ⟨k + 1, by omega, by go_num, by rw [Hn.out]; go_num, Hb2.out⟩
        case measure => simp [intOf]; omega
    · have hlt' : decide ((k : Int) < (l.length : Int)) = false := by simp; omega
      obtain rfl : k = l.length := by omega
      have He : Hid (l.take l.length = l) := List.take_length
      generalize hq : (l.take l.length).countP (fun c : Cb => c.id != 0) = q
      rw [He.out] at hq
      have Hq := Lib.hid hq
      clear hq
      go_wp2_with fail
      go_ret
      exact ⟨by rw [Hq.out]; rfl, hb.out⟩
theorem countP_zero (l : List Cb) : (((l.countP fun c => c.id != 0 : Nat) : Int) == 0) = l.all fun c => c.id == 0 := by
  apply bool_eq
  rw [beq_iff_eq, List.all_eq_true]
  constructor
  · intro h c hc
    have h0 : (l.countP fun c => c.id != 0) = 0 := by omega
    rw [List.countP_eq_zero] at h0
    have := h0 c hc
    simpa using this
  · intro h
    have h0 : (l.countP fun c => c.id != 0) = 0 := by
      rw [List.countP_eq_zero]
      intro c hc
      have := h c hc
      simpa using this
    omega
theorem len_zero (l : List Cb) : ((l.length : Int) == 0) = l.isEmpty := by cases l <;> rfl
/-- the parts that a change of its kind does not have -/
def restP (d : Dp) (n : Int) : Pp :=
  if d.op = 1 then ⟨0, ⟨#[]⟩, d.co, d.to, ⟨#[]⟩, d.tk, d.tm, d.nl, d.dk, d.dn, d.ds, ((d.cols.countP fun c => c.id != 0 : Nat) : Int)⟩
  else if d.op = 2 then ⟨0, ⟨#[]⟩, d.co, d.to, d.key, d.tk, d.tm, d.nl, d.dk, d.dn, d.ds, n⟩
  else if d.op = 3 then ⟨0, ⟨#[]⟩, d.co, ⟨#[]⟩, d.key, d.tk, d.tm, d.nl, d.dk, d.dn, d.ds, n⟩
  else if d.op = 4 then ⟨0, ⟨#[]⟩, ⟨#[]⟩, d.to, d.key, 0, 0, false, 0, 0, ⟨#[]⟩, n⟩
  else if d.op = 5 then ⟨0, ⟨#[]⟩, ⟨#[]⟩, d.to, d.key, d.tk, d.tm, d.nl, d.dk, d.dn, d.ds, n⟩
  else if d.op = 6 then ⟨0, ⟨#[]⟩, ⟨#[]⟩, ⟨#[]⟩, d.key, d.tk, d.tm, d.nl, d.dk, d.dn, d.ds, n⟩
  else if d.op = 7 then ⟨0, ⟨#[]⟩, ⟨#[]⟩, d.to, d.key, 0, 0, d.nl, d.dk, d.dn, d.ds, n⟩
  else ⟨0, ⟨#[]⟩, ⟨#[]⟩, d.to, d.key, d.tk, d.tm, d.nl, 0, 0, ⟨#[]⟩, n⟩
def zeroP : Pp := ⟨0, ⟨#[]⟩, ⟨#[]⟩, ⟨#[]⟩, ⟨#[]⟩, 0, 0, false, 0, 0, ⟨#[]⟩, 0⟩
set_option linter.unusedSimpArgs false in
theorem rest_plain (d : Dp) (h : 1 ≤ d.op ∧ d.op ≤ 8) : eqP (restP d (d.cols.length : Int)) zeroP = plainD d := by
  have hnl : ∀ b : Bool, (b == false) = !b := fun b => by cases b <;> rfl
  have hz : ∀ s : ByteArray, eqS s (⟨#[]⟩ : ByteArray) = emp s := fun s => rfl
  have hzz : emp (⟨#[]⟩ : ByteArray) = true := eqS_self _
  have hzd : zDf d = ((d.dk == 0) && ((d.dn == 0) && emp d.ds)) := rfl
  have hzt : zTy d = ((d.tk == 0) && (d.tm == 0)) := rfl
  have hzc : zCo d = d.cols.isEmpty := rfl
  by_cases e : d.op = 1
  · unfold plainD restP eqP zeroP
    rw [if_pos e, if_pos e]
    simp only [hnl, hz, hzz, hzd, hzt, hzc, countP_zero, len_zero, beq_self_eq_true, Bool.and_assoc, Bool.true_and, Bool.not_false]
  by_cases e : d.op = 2
  · unfold plainD restP eqP zeroP
    rw [if_neg (by omega), if_pos e, if_neg (by omega), if_pos e]
    simp only [hnl, hz, hzz, hzd, hzt, hzc, countP_zero, len_zero, beq_self_eq_true, Bool.and_assoc, Bool.true_and, Bool.not_false]
  by_cases e : d.op = 3
  · unfold plainD restP eqP zeroP
    rw [if_neg (by omega), if_neg (by omega), if_pos e, if_neg (by omega), if_neg (by omega), if_pos e]
    simp only [hnl, hz, hzz, hzd, hzt, hzc, countP_zero, len_zero, beq_self_eq_true, Bool.and_assoc, Bool.true_and, Bool.not_false]
  by_cases e : d.op = 4
  · unfold plainD restP eqP zeroP
    rw [if_neg (by omega), if_neg (by omega), if_neg (by omega), if_pos e, if_neg (by omega), if_neg (by omega), if_neg (by omega), if_pos e]
    simp only [hnl, hz, hzz, hzd, hzt, hzc, countP_zero, len_zero, beq_self_eq_true, Bool.and_assoc, Bool.true_and, Bool.not_false]
  by_cases e : d.op = 5
  · unfold plainD restP eqP zeroP
    rw [if_neg (by omega), if_neg (by omega), if_neg (by omega), if_neg (by omega), if_pos e, if_neg (by omega), if_neg (by omega), if_neg (by omega), if_neg (by omega), if_pos e]
    simp only [hnl, hz, hzz, hzd, hzt, hzc, countP_zero, len_zero, beq_self_eq_true, Bool.and_assoc, Bool.true_and, Bool.not_false]
  by_cases e : d.op = 6
  · unfold plainD restP eqP zeroP
    rw [if_neg (by omega), if_neg (by omega), if_neg (by omega), if_neg (by omega), if_neg (by omega), if_pos e, if_neg (by omega), if_neg (by omega), if_neg (by omega), if_neg (by omega), if_neg (by omega), if_pos e]
    simp only [hnl, hz, hzz, hzd, hzt, hzc, countP_zero, len_zero, beq_self_eq_true, Bool.and_assoc, Bool.true_and, Bool.not_false]
  by_cases e : d.op = 7
  · unfold plainD restP eqP zeroP
    rw [if_neg (by omega), if_neg (by omega), if_neg (by omega), if_neg (by omega), if_neg (by omega), if_neg (by omega), if_pos e, if_neg (by omega), if_neg (by omega), if_neg (by omega), if_neg (by omega), if_neg (by omega), if_neg (by omega), if_pos e]
    simp only [hnl, hz, hzz, hzd, hzt, hzc, countP_zero, len_zero, beq_self_eq_true, Bool.and_assoc, Bool.true_and, Bool.not_false]
  by_cases e : d.op = 8
  · unfold plainD restP eqP zeroP
    rw [if_neg (by omega), if_neg (by omega), if_neg (by omega), if_neg (by omega), if_neg (by omega), if_neg (by omega), if_neg (by omega), if_neg (by omega), if_neg (by omega), if_neg (by omega), if_neg (by omega), if_neg (by omega), if_neg (by omega), if_neg (by omega), if_pos e]
    simp only [hnl, hz, hzz, hzd, hzt, hzc, countP_zero, len_zero, beq_self_eq_true, Bool.and_assoc, Bool.true_and, Bool.not_false]
  omega
end Go.Proofs.YtebldfnocpcddaaGreatDoor

/-
  Contracts of slices.Equal at columns and of package ddl's Same.
-/
namespace Go.Proofs.YtebldfnocpcddaaGreatDoor
open Go.RowKit

theorem box_dd (w : World) (a b : Db) : ∃ w0, (w.alloc (.cells #[.int .i64 a.p.op, .string a.p.tb, .string a.p.co, .string a.p.to, .string a.p.key, .int .i64 a.p.tk, .int .i64 a.p.tm, .bool a.p.nl, .int .i64 a.p.dk, .int .i64 a.p.dn, .string a.p.ds, .slice a.A a.p.cols.length a.cap] 28)).alloc (.cells #[.int .i64 b.p.op, .string b.p.tb, .string b.p.co, .string b.p.to, .string b.p.key, .int .i64 b.p.tk, .int .i64 b.p.tm, .bool b.p.nl, .int .i64 b.p.dk, .int .i64 b.p.dn, .string b.p.ds, .slice b.A b.p.cols.length b.cap] 28) = w0 ∧ Below w.heap.size w w0 ∧ BlkN w0 w.heap.size (fD a) ∧ BlkN w0 (w.heap.size + 1) (fD b) ∧ w0.heap.size = w.heap.size + 2 :=
  ⟨_, rfl, below_two w _ _, (BlkN.new w _ (fD a) _ rfl).alloc (by simp) _, BlkN.new _ _ (fD b) _ (by simp), by simp⟩
end Go.Proofs.YtebldfnocpcddaaGreatDoor

/-
  Parameters of type []api.DDL, opened; law09's Few, FewAll.
-/
namespace Go.Proofs.YtebldfnocpcddaaGreatDoor
open Go.RowKit Go.WideShapes

/-- is a change tried? -/
def fewD (d : Dp) : Bool := decide ((d.tb.size : Int) + d.co.size + d.to.size + d.key.size + d.ds.size ≤ 600) && fewT ⟨0, ByteArray.empty, 0, 0, none, 0, d.cols⟩
end Go.Proofs.YtebldfnocpcddaaGreatDoor

/-
  How long the strings of a change that comes in may be: as the statement's own bound on all that is handed in has it; parameters of type api.DDL and []api.DDL, opened with it.
-/
namespace Go.Proofs.YtebldfnocpcddaaGreatDoor
open Go.RowKit Go.WideShapes

theorem sized_each {H : Type} {P : Program} {ts us : List TypeId} {ds gs : List (DataW H)} (h : (DataW.weightsEach P (ts ++ us) (ds ++ gs)).all (· ≤ reachBytes) = true) (j : Nat) (t : TypeId) (d : DataW H) (ht : ts[j]? = some t) (hd : ds[j]? = some d) : ∀ n ∈ d.weights P t, n ≤ reachBytes := fun n hn => by
  have h1 : (ts ++ us)[j]? = some t := by rw [List.getElem?_append_left (List.getElem?_eq_some_iff.1 ht).1]; exact ht
  have h2 : (ds ++ gs)[j]? = some d := by rw [List.getElem?_append_left (List.getElem?_eq_some_iff.1 hd).1]; exact hd
  have := List.all_eq_true.1 h n (DataW.weights_mem_each h1 h2 n hn)
  simpa using this
theorem weightsAll_mem {H : Type} {P : Program} {e : TypeId} : ∀ {l : List (DataW H)} {d : DataW H} {n : Nat}, d ∈ l → n ∈ d.weights P e → n ∈ DataW.weightsAll P e l
  | x :: r, d, n, hd, hn => by
    simp only [DataW.weightsAll, List.mem_append]
    rcases List.mem_cons.1 hd with rfl | hd
    · exact .inl hn
    · exact .inr (weightsAll_mem hd hn)
/-- the strings of a change are not longer than any machine reaches -/
def SmD (d : Dp) : Prop := d.tb.size ≤ reachBytes ∧ d.co.size ≤ reachBytes ∧ d.to.size ≤ reachBytes ∧ d.key.size ≤ reachBytes ∧ d.ds.size ≤ reachBytes
set_option maxRecDepth 100000 in
theorem val_w {H : Type} {enc : TypeId × Value → H} {W : World} {sp : Nat → Bool} {fuel : Nat} {c0 c1 : Value} {s : ByteArray} {y : DataW H × List MemPlace}
    (h : DataW.trod enc Tryz.prog W 0 sp true fuel 25 [c0, c1, .string s] = some y) : s.size ∈ y.1.weights Tryz.prog 25 := by
  obtain ⟨y0, y1, y2, n', hy, _, t0, t1, t2⟩ := Go.Deep.trod_struct3 Tryz.underlying25 h
  simp [q_int, q_int64, q_string] at t0 t1 t2
  obtain ⟨s', r2, e2, w2⟩ := DataW.trod_string Tryz.underlying9 t2
  simp at r2
  subst r2
  subst hy
  simp [DataW.weights, Tryz.underlying25, DataW.weightsEach, e2]
set_option maxRecDepth 100000 in
set_option maxHeartbeats 1000000 in
theorem ddl_w {H : Type} {enc : TypeId × Value → H} {W : World} {sp : Nat → Bool} {fuel : Nat} {d : Db} {y : DataW H × List MemPlace}
    (h : DataW.trod enc Tryz.prog W 0 sp true fuel 28 (fD d) = some y) (hw : ∀ n ∈ y.1.weights Tryz.prog 28, n ≤ reachBytes) : SmD d.p := by
  obtain ⟨xs, n', _, hy, hl, hlen, hf⟩ := DataW.trod_struct Tryz.underlying28 h
  match xs, hlen with
  | [y0, y1, y2, y3, y4, y5, y6, y7, y8], _ =>
    have t1 := hf 1 _ rfl
    have t2 := hf 2 _ rfl
    have t3 := hf 3 _ rfl
    have t4 := hf 4 _ rfl
    have t7 := hf 7 _ rfl
    simp [q_string, fD] at t1 t2 t3 t4 t7
    obtain ⟨s1, r1, e1, _⟩ := DataW.trod_string Tryz.underlying9 t1
    obtain ⟨s2, r2, e2, _⟩ := DataW.trod_string Tryz.underlying9 t2
    obtain ⟨s3, r3, e3, _⟩ := DataW.trod_string Tryz.underlying9 t3
    obtain ⟨s4, r4, e4, _⟩ := DataW.trod_string Tryz.underlying9 t4
    have e7 := val_w t7
    simp at r1 r2 r3 r4
    subst r1 r2 r3 r4
    subst hy
    have hv : ∀ n, n ∈ y1.1.weights Tryz.prog 9 ∨ n ∈ y2.1.weights Tryz.prog 9 ∨ n ∈ y3.1.weights Tryz.prog 9 ∨ n ∈ y4.1.weights Tryz.prog 9 ∨ n ∈ y7.1.weights Tryz.prog 25 → n ≤ reachBytes := fun n hn => hw n (by
      simp only [DataW.weights, Tryz.underlying28, DataW.weightsEach, List.map_cons, List.map_nil, List.mem_append]
      rcases hn with h | h | h | h | h
      · exact .inr (.inl h)
      · exact .inr (.inr (.inl h))
      · exact .inr (.inr (.inr (.inl h)))
      · exact .inr (.inr (.inr (.inr (.inl h))))
      · exact .inr (.inr (.inr (.inr (.inr (.inr (.inr (.inl h)))))))) 
    exact ⟨hv _ (.inl (by simp [e1, DataW.weights])), hv _ (.inr (.inl (by simp [e2, DataW.weights]))), hv _ (.inr (.inr (.inl (by simp [e3, DataW.weights])))), hv _ (.inr (.inr (.inr (.inl (by simp [e4, DataW.weights]))))), hv _ (.inr (.inr (.inr (.inr e7))))⟩
set_option maxRecDepth 100000 in
theorem openDDLW {H : Type} {enc : TypeId × Value → H} {W : World} {base : Nat} {v : Value} {d : DataW H} {p : List MemPlace} {sp : Nat → Bool}
    (hv : Value.okWide Tryz.prog W .any base 28 v) (h : DataW.Trod enc Tryz.prog W 0 sp true 28 v d p) (hw : ∀ n ∈ d.weights Tryz.prog 28, n ≤ reachBytes) : ∃ d : Db, v = DV d ∧ InD W d ∧ SmD d.p := by
  obtain ⟨t, rfl, h2⟩ := openDDL hv h
  obtain ⟨fuel, hf⟩ := h
  exact ⟨t, rfl, h2, ddl_w (d := t) hf hw⟩
/-- a slice of structs opened, each with its data -/
theorem row_openW {α : Type} [Inhabited α] {H : Type} {enc : TypeId × Value → H} {W : World} {sp : Nat → Bool} {m : Nat} {f : α → List Value} {Q : α → Prop} {ts e : TypeId} (hts : Tryz.prog.underlying ts = some (.slice e)) (hm : Tryz.prog.cellsOf e = m)
    (hone : ∀ fuel cs x, DataW.trod enc Tryz.prog W 0 sp true fuel e cs = some x → (∀ n ∈ x.1.weights Tryz.prog e, n ≤ reachBytes) → ∃ a, cs = f a ∧ Q a) (hf0 : ∀ a, ∃ v, (f a)[0]? = some v)
    {fuel : Nat} {v : Value} {x : DataW H × List MemPlace} (h : DataW.trod enc Tryz.prog W 0 sp true fuel ts [v] = some x) (hw : ∀ n ∈ x.1.weights Tryz.prog ts, n ≤ reachBytes) : ∃ a len cap, v = .slice a len cap ∧ ∃ l : List α, l.length = len ∧ len ≤ maxLen ∧ len ≤ cap ∧ RowAt m f W W.heap.size a l ∧ ∀ x ∈ l, Q x := by
  rcases Go.Deep.open_slice hts h with ⟨hcs, _⟩ | ⟨x, len, cap, m', n, D, Pl, hcs, hb, hl, hmx, hmm, hxe, hx⟩
  · obtain rfl : v = .slice none 0 0 := by simpa using hcs
    exact ⟨none, 0, 0, rfl, [], rfl, Nat.zero_le _, Nat.zero_le _, fun hp => absurd hp (by simp), by simp⟩
  · obtain rfl : v = .slice (some x) len cap := by simpa using hcs
    rw [hm] at hx
    have hlm : len ≤ m' := by rw [hmm]; split <;> omega
    have one : ∀ i, i < len → ∃ a : α, (∀ j v, (f a)[j]? = some v → W.cell? ((x.add (i * m)).add j) = some v) ∧ Q a := fun i hi => by
      obtain ⟨cs, h1, h2⟩ := hx i (by omega)
      obtain ⟨_, hlen, hc⟩ := World.cells?_some h1
      obtain ⟨a, rfl, hq⟩ := hone _ _ _ h2 fun n hn => hw n (by
        rw [hxe]
        simp only [DataW.weights, hts, List.mem_cons, List.mem_append]
        exact .inr (.inl (weightsAll_mem (List.mem_map.2 ⟨i, List.mem_range.2 hi, rfl⟩) hn)))
      refine ⟨a, fun j v hv => ?_, hq⟩
      rw [hc j (by have := (List.getElem?_eq_some_iff.1 hv).1; omega)]
      exact hv
    obtain ⟨g, hg⟩ := Go.Deep.choose_lt one
    refine ⟨some x, len, cap, rfl, (List.range len).map g, by simp, by omega, hl, fun hp => ?_, fun y hy => ?_⟩
    · simp at hp
      obtain ⟨v0, hv0⟩ := hf0 (g 0)
      have e0 := (hg 0 hp).1 0 v0 hv0
      obtain ⟨b, off, spt⟩ := x
      obtain rfl : spt = none := by simpa [Addr.add] using World.cell?_spot e0
      have hlt := World.block_lt_of_cell? W _ e0
      rw [Addr.add_lit, Addr.add_lit] at hlt
      refine ⟨b, off, rfl, hlt, fun j t hj i v hv => ?_⟩
      have hjl : j < len := by
        have := (List.getElem?_eq_some_iff.1 hj).1
        simpa using this
      have ht : g j = t := by simpa [hjl] using hj
      subst ht
      have := (hg j hjl).1 i v hv
      simp only [Addr.add_lit] at this
      exact this
    · simp at hy
      obtain ⟨i, hi, rfl⟩ := hy
      exact (hg i hi).2
end Go.Proofs.YtebldfnocpcddaaGreatDoor

/-
  Contract of package ddl's fill: the columns of a new table, in its box.
-/
namespace Go.Proofs.YtebldfnocpcddaaGreatDoor
open Go.RowKit

/-- a column with its number -/
def Cb.at (c : Cb) (i : Nat) : Cb := { c with id := (i : Int) }
def numd (l : List Cb) : List Cb := l.mapIdx fun i c => { c with id := (i : Int) }
theorem numd_get (l : List Cb) (i : Nat) : (numd l)[i]? = (l[i]?).map fun c => c.at i := by unfold numd; rw [List.getElem?_mapIdx]; rfl
theorem numd_length (l : List Cb) : (numd l).length = l.length := by unfold numd; rw [List.length_mapIdx]
theorem numd_take (l : List Cb) (k : Nat) (c : Cb) (h : l[k]? = some c) : numd (l.take (k + 1)) = numd (l.take k) ++ [{ c with id := (k : Int) }] := by
  have hk := (List.getElem?_eq_some_iff.1 h).1
  unfold numd
  rw [List.take_add_one, h, Option.toList, List.mapIdx_append, List.length_take, show min k l.length = k by omega]
  simp
theorem colP_numd (l : List Cb) (s : ByteArray) : colP (numd l) s = colP l s := by
  unfold colP
  have e : (fun c : Cb => eqS c.nm s) = (fun b : ByteArray => eqS b s) ∘ Cb.nm := rfl
  have h : (numd l).map Cb.nm = l.map Cb.nm := by
    refine List.ext_getElem? fun i => ?_
    rw [List.getElem?_map, List.getElem?_map, numd_get]
    cases l[i]? <;> rfl
  rw [e, ← List.findIdx?_map, ← List.findIdx?_map, h]
/-- the table when k columns stand -/
def fillT (t : Tb) (l : List Cb) (k : Nat) (A : Option Addr) (cap : Nat) : Tb := ⟨t.id, t.nm, t.key, (k : Int), A, cap, numd (l.take k)⟩
theorem acol_ncol (l : List Cb) (k : Nat) (c : Cb) : acolE (numd (l.take k)) c = ncolE l k c := by
  unfold acolE ncolE
  rw [colP_numd]; rfl
theorem ncolsE_stop {l : List Cb} : ∀ (r : List Cb) (i k : Nat) (c : Cb), (∀ j x, j < k → r[j]? = some x → ncolE l (i + j) x = 0) → r[k]? = some c → ncolE l (i + k) c ≠ 0 → ncolsE l i r = ncolE l (i + k) c
  | [], _, k, c, _, h, _ => by simp at h
  | a :: r, i, 0, c, _, h, h0 => by
    simp at h; subst h
    rw [ncolsE, if_neg (by simpa using h0)]; rfl
  | a :: r, i, k + 1, c, ha, h, h0 => by
    rw [ncolsE, if_pos (by simpa using ha 0 a (by omega) rfl)]
    rw [show i + (k + 1) = i + 1 + k by omega] at h0 ⊢
    exact ncolsE_stop r (i + 1) k c (fun j x hj hx => by
      have := ha (j + 1) x (by omega) (by simpa using hx)
      rwa [show i + (j + 1) = i + 1 + j by omega] at this) (by simpa using h) h0
theorem ncolsE_done {l : List Cb} : ∀ (r : List Cb) (i : Nat), (∀ j x, r[j]? = some x → ncolE l (i + j) x = 0) → ncolsE l i r = 0
  | [], _, _ => rfl
  | a :: r, i, h => by
    rw [ncolsE, if_pos (by simpa using h 0 a rfl)]
    exact ncolsE_done r (i + 1) fun j x hx => by
      have := h (j + 1) x (by simpa using hx)
      rwa [show i + (j + 1) = i + 1 + j by omega] at this
/-- why a table's columns can't stand -/
def filE (d : Dp) : Int := if d.cols.length = 0 then 5 else if 10 < d.cols.length then 3
    else if ncolsE d.cols 0 d.cols = 0 then (match (colP d.cols d.key).bind fun k => d.cols[k]? with
      | none => 15
      | some c => if c.nl = true then 11 else 0)
    else ncolsE d.cols 0 d.cols
/-- a table in its box, its columns its own -/
def Boxed (w : World) (b Bc : Nat) (t : Tb) : Prop := OwnTb w b (.slice (some ⟨b, 0, none⟩) 1 1) [t] ∧ OwnC w Bc (.slice t.A t.cols.length t.cap) t.cols
theorem Boxed.cells {w : World} {b Bc : Nat} {t : Tb} (h : Boxed w b Bc t) : w.cell? ⟨b, 0, none⟩ = some (.int .i64 t.id) ∧ w.cell? ⟨b, 1, none⟩ = some (.string t.nm) ∧ w.cell? ⟨b, 2, none⟩ = some (.int .i64 t.key) ∧ w.cell? ⟨b, 3, none⟩ = some (.int .i64 t.nx) ∧ w.cell? ⟨b, 4, none⟩ = some (.slice t.A t.cols.length t.cap) := by
  have := tab_cells (k := 0) h.1 rfl
  simpa using this
theorem Boxed.below {w w' : World} {b Bc : Nat} {t : Tb} (h : Boxed w b Bc t) (hb : Below w.heap.size w w') : Boxed w' b Bc t := ⟨h.1.below hb, h.2.below hb⟩
theorem Boxed.at {w : World} {b Bc : Nat} {t : Tb} (h : Boxed w b Bc t) : TabAt w w.heap.size t := h.2.at lenC
/-- the key of a table in its box stored -/
theorem Boxed.key {w : World} {b Bc : Nat} {T : Tb} (h : Boxed w b Bc T) (hb : b < Bc) (q : Int) : Boxed (w.setCell ⟨b, 2, none⟩ (.int .i64 q)) b Bc { T with key := q } := by
  have h1 := OwnR.set1 (l := [T]) lenT h.1 (k := 0) (i := 2) (x := T) (y := { T with key := q }) (u := .int .i64 q) rfl (by omega) rfl
  rw [show 0 * 5 + 2 = 2 from rfl] at h1
  exact ⟨h1, OwnR.off h.2 (Off.set w b 2 (.int .i64 q)) (fun x hx e => by
    have h3 := (h.2.lt x hx).1
    omega)⟩
end Go.Proofs.YtebldfnocpcddaaGreatDoor

/-
  Contract of slices.Insert at tables: one table inserted into a row of the call's own. The roads after the library's own (Derived.Shelf.Spec.SlicesInsert, SlicesInsertGrow), at elements of five cells.
-/
namespace Go.Proofs.YtebldfnocpcddaaGreatDoor
open Go.RowKit Go.Lib

theorem ins_get {α : Type} (l : List α) (t : α) (i j : Nat) (hi : i ≤ l.length) : (l.take i ++ t :: l.drop i)[j]? = if j < i then l[j]? else if j = i then some t else l[j - 1]? := by
  by_cases h : j < i
  · rw [if_pos h, List.getElem?_append_left (by rw [List.length_take]; omega), List.getElem?_take, if_pos h]
  · rw [if_neg h, List.getElem?_append_right (by rw [List.length_take]; omega), List.length_take, show min i l.length = i by omega]
    by_cases h2 : j = i
    · rw [if_pos h2, h2]; simp
    · rw [if_neg h2, show j - i = (j - i - 1) + 1 by omega, List.getElem?_cons_succ, List.getElem?_drop, show i + (j - i - 1) = j - 1 by omega]
end Go.Proofs.YtebldfnocpcddaaGreatDoor

/-
  slices.Insert at tables: no room (a new row), at the end, and all roads together.
-/
namespace Go.Proofs.YtebldfnocpcddaaGreatDoor
open Go.RowKit Go.Lib

end Go.Proofs.YtebldfnocpcddaaGreatDoor

/-
  Contract of package ddl's create.
-/
namespace Go.Proofs.YtebldfnocpcddaaGreatDoor
open Go.RowKit

theorem ins_count {t : Tp} : ∀ {L : List Tp}, L.Pairwise (Apart Tp.id Tp.nm) → (∀ x ∈ L, x.id ≠ t.id) →
    L.take (L.countP fun x => decide (x.id < t.id)) ++ t :: L.drop (L.countP fun x => decide (x.id < t.id)) = insT t L
  | [], _, _ => rfl
  | x :: r, hp, hn => by
    rw [List.pairwise_cons] at hp
    unfold insT
    have hx := hn x List.mem_cons_self
    by_cases h : t.id < x.id
    · rw [if_pos h]
      have e : (x :: r).countP (fun x => decide (x.id < t.id)) = 0 := by
        rw [List.countP_eq_zero]
        intro y hy
        rcases List.mem_cons.1 hy with rfl | hy
        · simp; omega
        · have := (hp.1 y hy).1
          simp; omega
      rw [e]; rfl
    · rw [if_neg h, ← ins_count hp.2 fun y hy => hn y (List.mem_cons_of_mem _ hy)]
      rw [List.countP_cons, show decide (x.id < t.id) = true by simp; omega]
      simp
theorem countP_p (l : List Tb) (id : Int) : (l.countP fun t => decide (t.id < id)) = (l.map Tb.p).countP fun x => decide (x.id < id) := by
  rw [List.countP_map]; rfl
theorem find_p (l : List Tb) (s : ByteArray) : (l.findIdx? fun x => eqS x.nm s) = findT (l.map Tb.p) s := by
  unfold findT
  rw [List.findIdx?_map]; rfl
theorem byId_p (l : List Tb) (id : Int) : (l.findIdx? fun x => x.id == id) = (l.map Tb.p).findIdx? fun t => t.id == id := by
  rw [List.findIdx?_map]; rfl
/-- where a catalog that a change made lies -/
def CatAt (w : World) (A : Option Addr) (cap : Nat) (l : List Tb) : Prop := TabsAt w w.heap.size A l ∧ l.length ≤ cap ∧ ∀ t ∈ l, t.cols.length ≤ t.cap
theorem box_tabO (w : World) (t : Tb) : ∃ w0, w.alloc (.cells #[.int .i64 t.id, .string t.nm, .int .i64 t.key, .int .i64 t.nx, .slice t.A t.cols.length t.cap] 45) = w0 ∧ Below w.heap.size w w0 ∧ OwnTb w0 w.heap.size (.slice (some ⟨w.heap.size, 0, none⟩) 1 1) [t] ∧ w0.heap.size = w.heap.size + 1 :=
  ⟨_, rfl, below_one w _, OwnR.box _ _ fT lenT w t, by simp⟩
end Go.Proofs.YtebldfnocpcddaaGreatDoor

/-
  Contracts of package ddl's call and cut.
-/
namespace Go.Proofs.YtebldfnocpcddaaGreatDoor
open Go.RowKit

/-- why a column may not be called otherwise -/
def callE (l : List Cb) (s : ByteArray) : Int := if rightN (bs s) = true then (if (colP l s).isSome = true then 14 else 0) else 8
/-- why a column may not be removed -/
def cutE (t : Tb) (c : Cb) : Int := if c.id = t.key then 15 else 0
end Go.Proofs.YtebldfnocpcddaaGreatDoor
