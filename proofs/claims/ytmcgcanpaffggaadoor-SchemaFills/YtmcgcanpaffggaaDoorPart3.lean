/-
  Texts that the proof needs, one behind the other: SchOpen, SchFewC.
-/
import Derived.Test.YtmcgcanpaffggaaDoorPart1
import Derived.Test.YtmcgcanpaffggaaDoorPart2

/-
  Parameters of type api.Catalog, api.Table and []api.Field, opened.
-/
namespace Go.Proofs.YtmcgcanpaffggaaDoor
open Go.RowKit Go.WideShapes

/-! ### Opening -/
theorem row_open {α : Type} [Inhabited α] {H : Type} {enc : TypeId × Value → H} {W : World} {sp : Nat → Bool} {m : Nat} {f : α → List Value} {Q : α → Prop} {ts e : TypeId} (hts : Tryd.prog.underlying ts = some (.slice e)) (hm : Tryd.prog.cellsOf e = m)
    (hone : ∀ fuel cs x, DataW.trod enc Tryd.prog W 0 sp true fuel e cs = some x → ∃ a, cs = f a ∧ Q a) (hf0 : ∀ a, ∃ v, (f a)[0]? = some v)
    {fuel : Nat} {v : Value} {x : DataW H × List MemPlace} (h : DataW.trod enc Tryd.prog W 0 sp true fuel ts [v] = some x) : ∃ a len cap, v = .slice a len cap ∧ ∃ l : List α, l.length = len ∧ len ≤ maxLen ∧ len ≤ cap ∧ RowAt m f W W.heap.size a l ∧ ∀ x ∈ l, Q x := by
  rcases Go.Deep.open_slice hts h with ⟨hcs, _⟩ | ⟨x, len, cap, m', n, D, Pl, hcs, hb, hl, hmx, hmm, _, hx⟩
  · obtain rfl : v = .slice none 0 0 := by simpa using hcs
    exact ⟨none, 0, 0, rfl, [], rfl, Nat.zero_le _, Nat.zero_le _, fun hp => absurd hp (by simp), by simp⟩
  · obtain rfl : v = .slice (some x) len cap := by simpa using hcs
    rw [hm] at hx
    have hlm : len ≤ m' := by rw [hmm]; split <;> omega
    have one : ∀ i, i < len → ∃ a : α, (∀ j v, (f a)[j]? = some v → W.cell? ((x.add (i * m)).add j) = some v) ∧ Q a := fun i hi => by
      obtain ⟨cs, h1, h2⟩ := hx i (by omega)
      obtain ⟨_, hlen, hc⟩ := World.cells?_some h1
      obtain ⟨a, rfl, hq⟩ := hone _ _ _ h2
      refine ⟨a, fun j v hv => ?_, hq⟩
      rw [hc j (by have := (List.getElem?_eq_some_iff.1 hv).1; omega)]
      exact hv
    obtain ⟨g, hg⟩ := Go.Deep.choose_lt one
    refine ⟨some x, len, cap, rfl, (List.range len).map g, by simp, by omega, hl, fun hp => ?_, fun y hy => ?_⟩
    · simp at hp
      obtain ⟨v0, hv0⟩ := hf0 (g 0)
      have e0 := (hg 0 hp).1 0 v0 hv0
      obtain ⟨b, off, spt⟩ := x
      obtain rfl : spt = none := by simpa [Addr.add] using World.cell?_spot e0
      have hlt := World.block_lt_of_cell? W _ e0
      rw [Addr.add_lit, Addr.add_lit] at hlt
      refine ⟨b, off, rfl, hlt, fun j t hj i v hv => ?_⟩
      have hjl : j < len := by
        have := (List.getElem?_eq_some_iff.1 hj).1
        simpa using this
      have ht : g j = t := by simpa [hjl] using hj
      subst ht
      have := (hg j hjl).1 i v hv
      simp only [Addr.add_lit] at this
      exact this
    · simp at hy
      obtain ⟨i, hi, rfl⟩ := hy
      exact (hg i hi).2
instance : Inhabited Cb := ⟨⟨0, ByteArray.empty, 0, 0, false, 0, 0, ByteArray.empty⟩⟩
instance : Inhabited Tb := ⟨⟨0, ByteArray.empty, 0, 0, none, 0, []⟩⟩
instance : Inhabited Fb := ⟨⟨ByteArray.empty, 0, 0, ByteArray.empty⟩⟩
/-- what is known of a column that comes in, of a table, of a field, of a value -/
def InC (c : Cb) : Prop := (Lit.int .i64 c.id).wf = true ∧ c.nm.size ≤ maxLen ∧ (Lit.int .i64 c.tk).wf = true ∧ (Lit.int .i64 c.tm).wf = true ∧ (Lit.int .i64 c.dk).wf = true ∧ (Lit.int .i64 c.dn).wf = true ∧ c.ds.size ≤ maxLen
def InT (w : World) (t : Tb) : Prop := (Lit.int .i64 t.id).wf = true ∧ t.nm.size ≤ maxLen ∧ (Lit.int .i64 t.key).wf = true ∧ (Lit.int .i64 t.nx).wf = true ∧ t.cols.length ≤ maxLen ∧ t.cols.length ≤ t.cap ∧ TabAt w w.heap.size t ∧ ∀ c ∈ t.cols, InC c
def InF (f : Fb) : Prop := f.nm.size ≤ maxLen ∧ (Lit.int .i64 f.k).wf = true ∧ (Lit.int .i64 f.n).wf = true ∧ f.s.size ≤ maxLen
set_option maxRecDepth 100000 in
theorem q_int : Tryd.prog.cellsOf 3 = 1 := by kernel_rfl
set_option maxRecDepth 100000 in
theorem q_int64 : Tryd.prog.cellsOf 2 = 1 := by kernel_rfl
set_option maxRecDepth 100000 in
theorem q_string : Tryd.prog.cellsOf 9 = 1 := by kernel_rfl
set_option maxRecDepth 100000 in
theorem q_bool : Tryd.prog.cellsOf 4 = 1 := by kernel_rfl
set_option maxRecDepth 100000 in
theorem q_type : Tryd.prog.cellsOf 33 = 2 := by kernel_rfl
set_option maxRecDepth 100000 in
theorem q_col : Tryd.prog.cellsOf 37 = 8 := by kernel_rfl
set_option maxRecDepth 100000 in
theorem q_cols : Tryd.prog.cellsOf 27 = 1 := by kernel_rfl
set_option maxRecDepth 100000 in
theorem q_tab : Tryd.prog.cellsOf 29 = 5 := by kernel_rfl
set_option maxRecDepth 100000 in
theorem q_tabs : Tryd.prog.cellsOf 22 = 1 := by kernel_rfl
set_option maxRecDepth 100000 in
theorem q_cat : Tryd.prog.cellsOf 24 = 1 := by kernel_rfl
set_option maxRecDepth 100000 in
theorem q_fld : Tryd.prog.cellsOf 76 = 4 := by kernel_rfl
set_option maxRecDepth 100000 in
theorem val_of {H : Type} {enc : TypeId × Value → H} {W : World} {sp : Nat → Bool} {fuel : Nat} {c0 c1 c2 : Value} {y : DataW H × List MemPlace}
    (h : DataW.trod enc Tryd.prog W 0 sp true fuel 35 [c0, c1, c2] = some y) : ∃ (k n : Int) (s : ByteArray), c0 = .int .i64 k ∧ c1 = .int .i64 n ∧ c2 = .string s ∧ (Lit.int .i64 k).wf = true ∧ (Lit.int .i64 n).wf = true ∧ s.size ≤ maxLen := by
  obtain ⟨y0, y1, y2, n', _, _, t0, t1, t2⟩ := Go.Deep.trod_struct3 Tryd.underlying35 h
  simp [q_int, q_int64, q_string] at t0 t1 t2
  obtain ⟨k, r0, _, w0⟩ := DataW.trod_int Tryd.underlying3 t0
  obtain ⟨n, r1, _, w1⟩ := DataW.trod_int Tryd.underlying2 t1
  obtain ⟨s, r2, _, w2⟩ := DataW.trod_string Tryd.underlying9 t2
  simp at r0 r1 r2
  exact ⟨k, n, s, r0, r1, r2, w0, w1, w2⟩
set_option maxRecDepth 100000 in
theorem typ_of {H : Type} {enc : TypeId × Value → H} {W : World} {sp : Nat → Bool} {fuel : Nat} {c0 c1 : Value} {y : DataW H × List MemPlace}
    (h : DataW.trod enc Tryd.prog W 0 sp true fuel 33 [c0, c1] = some y) : ∃ k m : Int, c0 = .int .i64 k ∧ c1 = .int .i64 m ∧ (Lit.int .i64 k).wf = true ∧ (Lit.int .i64 m).wf = true := by
  obtain ⟨xs, n', _, _, _, hlen, hf⟩ := DataW.trod_struct Tryd.underlying33 h
  match xs, hlen with
  | [y0, y1], _ =>
    have t0 := hf 0 _ rfl
    have t1 := hf 1 _ rfl
    simp [q_int] at t0 t1
    obtain ⟨k, r0, _, w0⟩ := DataW.trod_int Tryd.underlying3 t0
    obtain ⟨m, r1, _, w1⟩ := DataW.trod_int Tryd.underlying3 t1
    simp at r0 r1
    exact ⟨k, m, r0, r1, w0, w1⟩
set_option maxRecDepth 100000 in
theorem col_of {H : Type} {enc : TypeId × Value → H} {W : World} {sp : Nat → Bool} (fuel : Nat) (cs : List Value) (y : DataW H × List MemPlace)
    (h : DataW.trod enc Tryd.prog W 0 sp true fuel 37 cs = some y) : ∃ c : Cb, cs = fC c ∧ InC c := by
  obtain ⟨xs, n', _, _, hl, hlen, hf⟩ := DataW.trod_struct Tryd.underlying37 h
  rw [q_col] at hl
  match xs, hlen with
  | [y0, y1, y2, y3, y4], _ =>
    match cs, hl with
    | [c0, c1, c2, c3, c4, c5, c6, c7], _ =>
      have t0 := hf 0 _ rfl
      have t1 := hf 1 _ rfl
      have t2 := hf 2 _ rfl
      have t3 := hf 3 _ rfl
      have t4 := hf 4 _ rfl
      simp [q_int, q_string, q_bool, q_type, cellsV] at t0 t1 t2 t3 t4
      obtain ⟨i, r0, _, w0⟩ := DataW.trod_int Tryd.underlying3 t0
      obtain ⟨s, r1, _, w1⟩ := DataW.trod_string Tryd.underlying9 t1
      obtain ⟨k, m, rfl, rfl, w2, w3⟩ := typ_of t2
      obtain ⟨b, r3, _⟩ := DataW.trod_bool Tryd.underlying4 t3
      obtain ⟨dk, dn, ds, rfl, rfl, rfl, w5, w6, w7⟩ := val_of t4
      simp at r0 r1 r3
      subst r0 r1 r3
      exact ⟨⟨i, s, k, m, b, dk, dn, ds⟩, rfl, w0, w1, w2, w3, w5, w6, w7⟩
set_option maxRecDepth 100000 in
theorem fld_of {H : Type} {enc : TypeId × Value → H} {W : World} {sp : Nat → Bool} (fuel : Nat) (cs : List Value) (y : DataW H × List MemPlace)
    (h : DataW.trod enc Tryd.prog W 0 sp true fuel 76 cs = some y) : ∃ c : Fb, cs = fF c ∧ InF c := by
  obtain ⟨xs, n', _, _, hl, hlen, hf⟩ := DataW.trod_struct Tryd.underlying76 h
  rw [q_fld] at hl
  match xs, hlen with
  | [y0, y1], _ =>
    match cs, hl with
    | [c0, c1, c2, c3], _ =>
      have t0 := hf 0 _ rfl
      have t1 := hf 1 _ rfl
      simp [q_string, cellsV] at t0 t1
      obtain ⟨s, r1, _, w1⟩ := DataW.trod_string Tryd.underlying9 t0
      obtain ⟨dk, dn, ds, rfl, rfl, rfl, w5, w6, w7⟩ := val_of t1
      simp at r1
      subst r1
      exact ⟨⟨s, dk, dn, ds⟩, rfl, w1, w5, w6, w7⟩
set_option maxRecDepth 100000 in
theorem tab8_of {H : Type} {enc : TypeId × Value → H} {W : World} {sp : Nat → Bool} (fuel : Nat) (cs : List Value) (y : DataW H × List MemPlace)
    (h : DataW.trod enc Tryd.prog W 0 sp true fuel 29 cs = some y) : ∃ c : Tb, cs = fT c ∧ InT W c := by
  obtain ⟨xs, n', _, _, hl, hlen, hf⟩ := DataW.trod_struct Tryd.underlying29 h
  rw [q_tab] at hl
  match xs, hlen with
  | [y0, y1, y2, y3, y4], _ =>
    match cs, hl with
    | [c0, c1, c2, c3, c4], _ =>
      have t0 := hf 0 _ rfl
      have t1 := hf 1 _ rfl
      have t2 := hf 2 _ rfl
      have t3 := hf 3 _ rfl
      have t4 := hf 4 _ rfl
      simp [q_int, q_string, q_cols] at t0 t1 t2 t3 t4
      obtain ⟨i, r0, _, w0⟩ := DataW.trod_int Tryd.underlying3 t0
      obtain ⟨s, r1, _, w1⟩ := DataW.trod_string Tryd.underlying9 t1
      obtain ⟨k, r2, _, w2⟩ := DataW.trod_int Tryd.underlying3 t2
      obtain ⟨x, r3, _, w3⟩ := DataW.trod_int Tryd.underlying3 t3
      obtain ⟨a, len, cap, rfl, l, rfl, hl1, hlc, hl2, hl3⟩ := row_open Tryd.underlying27 q_col col_of (fun a => ⟨_, rfl⟩) t4
      simp at r0 r1 r2 r3
      subst r0 r1 r2 r3
      exact ⟨⟨i, s, k, x, a, cap, l⟩, rfl, w0, w1, w2, w3, hl1, hlc, hl2, hl3⟩
set_option maxRecDepth 100000 in
theorem openTab {H : Type} {enc : TypeId × Value → H} {W : World} {base : Nat} {v : Value} {d : DataW H} {p : List MemPlace} {sp : Nat → Bool}
    (hv : Value.okWide Tryd.prog W .any base 29 v) (h : DataW.Trod enc Tryd.prog W 0 sp true 29 v d p) : ∃ t : Tb, v = TV t ∧ InT W t := by
  obtain ⟨cs, rfl, _⟩ := okWide_struct Tryd.underlying29 hv
  obtain ⟨fuel, hf⟩ := h
  obtain ⟨t, h1, h2⟩ := tab8_of _ _ _ hf
  refine ⟨t, ?_, h2⟩
  simp only [Value.cells] at h1
  show Value.agg cs = Value.agg (fT t).toArray
  rw [← h1]
/-- a catalog's tables -/
def TabsIn (w : World) (A : Option Addr) (cap : Nat) (l : List Tb) : Prop := l.length ≤ maxLen ∧ l.length ≤ cap ∧ TabsAt w w.heap.size A l ∧ ∀ t ∈ l, InT w t
def FldsIn (w : World) (A : Option Addr) (cap : Nat) (l : List Fb) : Prop := l.length ≤ maxLen ∧ l.length ≤ cap ∧ FldsAt w w.heap.size A l ∧ ∀ f ∈ l, InF f
set_option maxRecDepth 100000 in
theorem openCat {H : Type} {enc : TypeId × Value → H} {W : World} {base : Nat} {v : Value} {d : DataW H} {p : List MemPlace} {sp : Nat → Bool}
    (hv : Value.okWide Tryd.prog W .any base 24 v) (h : DataW.Trod enc Tryd.prog W 0 sp true 24 v d p) : ∃ A cap, ∃ l : List Tb, v = .agg #[.slice A l.length cap] ∧ TabsIn W A cap l := by
  obtain ⟨cs, rfl, hsz⟩ := okWide_struct Tryd.underlying24 hv
  obtain ⟨fuel, hf⟩ := h
  rw [q_cat] at hsz
  obtain ⟨xs, n', _, _, hl, hlen, hg⟩ := DataW.trod_struct Tryd.underlying24 hf
  match xs, hlen with
  | [y0], _ =>
    obtain ⟨cl⟩ := cs
    match cl, hsz with
    | [c0], _ =>
      have t0 := hg 0 _ rfl
      simp [q_tabs, Value.cells] at t0
      obtain ⟨a, len, cap, rfl, l, rfl, hl1, hlc, hl2, hl3⟩ := row_open Tryd.underlying22 q_tab tab8_of (fun a => ⟨_, rfl⟩) t0
      exact ⟨a, cap, l, rfl, hl1, hlc, ⟨hl2, fun t ht => (hl3 t ht).2.2.2.2.2.2.1⟩, hl3⟩
set_option maxRecDepth 100000 in
theorem openFlds {H : Type} {enc : TypeId × Value → H} {W : World} {a : Option Addr} {len cap : Nat} {d : DataW H} {p : List MemPlace} {sp : Nat → Bool}
    (h : DataW.Trod enc Tryd.prog W 0 sp true 63 (.slice a len cap) d p) : ∃ l : List Fb, len = l.length ∧ FldsIn W a cap l := by
  obtain ⟨fuel, hf⟩ := h
  simp only [Value.cells] at hf
  obtain ⟨a', len', cap', e, l, rfl, hl1, hlc, hl2, hl3⟩ := row_open Tryd.underlying63 q_fld fld_of (fun a => ⟨_, rfl⟩) hf
  cases e
  exact ⟨l, rfl, hl1, hlc, hl2, hl3⟩
/-- a row of values with what is known of its capacity -/
def RowIn (w : World) (A : Option Addr) (cap : Nat) (l : List Vb) : Prop := l.length ≤ maxLen ∧ (A = none → cap = 0) ∧ ValsAt w w.heap.size A l ∧ ∀ v ∈ l, (Lit.int .i64 v.1).wf = true ∧ (Lit.int .i64 v.2.1).wf = true ∧ v.2.2.size ≤ maxLen
set_option maxRecDepth 100000 in
theorem openRow {H : Type} {enc : TypeId × Value → H} {W : World} {a : Option Addr} {len cap : Nat} {d : DataW H} {p : List MemPlace} {sp : Nat → Bool}
    (h : DataW.Trod enc Tryd.prog W 0 sp true 52 (.slice a len cap) d p) : ∃ l : List Vb, len = l.length ∧ RowIn W a cap l := by
  obtain ⟨l, h1, h2, h3, h4⟩ := valsIn_of h
  refine ⟨l, h1.symm, by omega, fun ha => ?_, h3, h4⟩
  subst ha
  obtain ⟨fuel, hf⟩ := h
  rcases Go.Deep.open_slice Tryd.underlying52 hf with ⟨hcs, _⟩ | ⟨x, ln, cp, m, n, D, Pl, hcs, _⟩
  · simp [Value.cells] at hcs
    exact hcs.2
  · simp [Value.cells] at hcs
end Go.Proofs.YtmcgcanpaffggaaDoor

/-
  Contracts of the law's own short, Few, FewAll, FewValues, FewFields and found of layer 8.
-/
namespace Go.Proofs.YtmcgcanpaffggaaDoor
open Go.RowKit

def shortB (s : ByteArray) : Bool := decide ((s.size : Int) ≤ 200)
theorem short8_any (s : ByteArray) (w : World) : Calls Tryd.prog 16 #[.string s] w fun e w' => e = .returned (.bool (shortB s)) ∧ w = w' := by
  go_enter Tryd.func16, Tryd.ntmps16
  go_wp2_with fail
  go_ret
  exact ⟨rfl, rfl⟩
def fewT (t : Tb) : Bool := decide ((t.cols.length : Int) ≤ 20) && (shortB t.nm && t.cols.all fun c => shortB c.nm && shortB c.ds)
def fewCat (l : List Tb) : Bool := decide ((l.length : Int) ≤ 10) && l.all fewT
def fewV (l : List Vb) : Bool := decide ((l.length : Int) ≤ 20) && l.all fun v => shortB v.2.2
def fewF (l : List Fb) : Bool := decide ((l.length : Int) ≤ 20) && l.all fun f => shortB f.nm && shortB f.s
theorem all_stop8 {α : Type} {p : α → Bool} {l : List α} {k : Nat} {x : α} (hx : l[k]? = some x) (h : p x = false) : l.all p = false := by
  cases e : l.all p with
  | false => rfl
  | true =>
    rw [List.all_eq_true] at e
    have := e x (List.mem_of_getElem? hx)
    rw [h] at this; cases this
theorem shortB_iff {s : ByteArray} : shortB s = true ↔ s.size ≤ 200 := by unfold shortB; rw [decide_eq_true_iff]; omega
theorem WfT_of {w : World} {t : Tb} (h : fewT t = true) (hi : InT w t) : WfT t := by
  unfold fewT at h
  simp only [Bool.and_eq_true, decide_eq_true_eq, List.all_eq_true, shortB_iff] at h
  obtain ⟨_, _, _, _, _, h6, _, h8⟩ := hi
  refine ⟨by omega, by omega, h6, fun c hc => ?_⟩
  have := h.2.2 c hc
  have hr := wf64 (h8 c hc).2.2.2.2.2.1
  exact ⟨by omega, hr.1, hr.2⟩

set_option maxRecDepth 100000 in
set_option maxHeartbeats 1600000 in
theorem few8_any (t : Tb) (w : World) (hA : TabAt w w.heap.size t) (hl : t.cols.length ≤ maxLen) :
    Calls Tryd.prog 30 #[TV t] w fun e w' => e = .returned (.bool (fewT t)) ∧ Below w.heap.size w w' := by
  unfold maxLen at hl
  obtain ⟨w0, hw0, hb0, hB, hs0⟩ := box_tab w t
  have Hw0 := Lib.hid hw0; clear hw0
  have Hb0 := Lib.hid hb0
  have HA := Lib.hid (RowAt.to hA hb0); clear hA hb0
  have HB := Lib.hid hB; clear hB
  have Hs0 := Lib.hid hs0; clear hs0
  have HN := Lib.hid (fun w => short8_any t.nm w)
  have Hv : Hid (fewT t = (decide ((t.cols.length : Int) ≤ 20) && (shortB t.nm && t.cols.all fun c => shortB c.nm && shortB c.ds))) := rfl
  have e1 : decide (20 < (t.cols.length : Int)) = !decide ((t.cols.length : Int) ≤ 20) := by apply bool_eq; simp
  generalize decide ((t.cols.length : Int) ≤ 20) = b1 at Hv e1
  generalize shortB t.nm = b2 at Hv HN
  cases b1
  · replace e1 : decide (20 < (t.cols.length : Int)) = true := e1
    go_enter Tryd.func30, Tryd.ntmps30
    go_wp2_with fail
    go_ret
    exact ⟨by rw [Hv.out]; rfl, by go_grown⟩
  replace e1 : decide (20 < (t.cols.length : Int)) = false := e1
  cases b2
  · go_enter Tryd.func30, Tryd.ntmps30
    go_wp2_with fail
    refine (HN.out _).mono ?_
    rintro e w1 ⟨rfl, rfl⟩
    go_wp2_with fail
    go_ret
    exact ⟨by rw [Hv.out]; rfl, by go_grown⟩
  replace Hv : Hid (fewT t = t.cols.all fun c => shortB c.nm && shortB c.ds) := by show _ = _; rw [Hv.out]; simp
  go_enter Tryd.func30, Tryd.ntmps30
  go_wp2_with fail
  refine (HN.out _).mono ?_
  rintro e w1 ⟨rfl, rfl⟩
  go_wp2_with fail
  rw [Hw0.out]
  clear e1 HN
  obtain ⟨c0, c1, c2, c3, c4⟩ := HB.out.tab
  have Hc4 := Lib.hid c4; clear c0 c1 c2 c3 c4
  go_loop [3] (fun i => ∃ k : Nat, k ≤ t.cols.length ∧ i = .int .i64 k ∧ Hid (∀ j c, t.cols[j]? = some c → j < k → (shortB c.nm && shortB c.ds) = true)) (fun i => t.cols.length - (intOf i).toNat)
  case atStart => exact ⟨0, by omega, rfl, fun j v _ h => absurd h (by omega)⟩
  case round =>
    obtain ⟨k, hk, rfl, hall⟩ := hrel
    by_cases hlt : k < t.cols.length
    · obtain ⟨x, hx⟩ : ∃ x, t.cols[k]? = some x := ⟨t.cols[k], by simp [hlt]⟩
      have Hx := Lib.hid hx
      obtain ⟨b, off, hAe, hbB, d0, d1, d2, d3, d4, d5, d6, d7⟩ := ColsAt.get HA.out k x hx
      have c4 : w0.cell? ⟨w.heap.size, 4, none⟩ = some (.slice (some ⟨b, off, none⟩) t.cols.length t.cap) := by rw [← hAe]; exact Hc4.out
      clear hAe hx
      have HN1 := Lib.hid (fun w => short8_any x.nm w)
      have HN2 := Lib.hid (fun w => short8_any x.ds w)
      cases h1 : shortB x.nm
      · have Hno : Hid ((t.cols.all fun c => shortB c.nm && shortB c.ds) = false) := all_stop8 Hx.out (by rw [h1]; rfl)
        rw [h1] at HN1
        go_wp2_with fail
        refine (HN1.out _).mono ?_
        rintro e w1 ⟨rfl, rfl⟩
        go_wp2_with fail
        go_ret
        exact ⟨by rw [Hv.out, Hno.out]; rfl, Hb0.out⟩
      · rw [h1] at HN1
        cases h2 : shortB x.ds
        · have Hno : Hid ((t.cols.all fun c => shortB c.nm && shortB c.ds) = false) := all_stop8 Hx.out (by rw [h1, h2]; rfl)
          rw [h2] at HN2
          go_wp2_with fail
          refine (HN1.out _).mono ?_
          rintro e w1 ⟨rfl, rfl⟩
          go_wp2_with fail
          refine (HN2.out _).mono ?_
          rintro e w1 ⟨rfl, rfl⟩
          go_wp2_with fail
          go_ret
          exact ⟨by rw [Hv.out, Hno.out]; rfl, Hb0.out⟩
        · have Hall : Hid (∀ j c, t.cols[j]? = some c → j < k + 1 → (shortB c.nm && shortB c.ds) = true) := fun j y hj hk => by
            by_cases e : j = k
            · subst e
              rw [Hx.out] at hj
              cases hj
              rw [h1, h2]; rfl
            · exact hall.out j y hj (by omega)
          rw [h2] at HN2
          go_wp2_with fail
          refine (HN1.out _).mono ?_
          rintro e w1 ⟨rfl, rfl⟩
          go_wp2_with fail
          refine (HN2.out _).mono ?_
          rintro e w1 ⟨rfl, rfl⟩
          go_wp2_with fail
          go_round
          case rel => exact ⟨k + 1, by omega, by go_num, Hall.out⟩
          case measure => simp [intOf]; omega
    · have c4 := Hc4.out
      have Hyes : Hid ((t.cols.all fun c => shortB c.nm && shortB c.ds) = true) := all_at fun j x hj => hall.out j x hj (by have := (List.getElem?_eq_some_iff.1 hj).1; omega)
      go_wp2_with fail
      go_ret
      exact ⟨by rw [Hv.out, Hyes.out]; rfl, Hb0.out⟩

set_option maxRecDepth 100000 in
set_option maxHeartbeats 1600000 in
theorem fewcat_any (A : Option Addr) (cp : Nat) (l : List Tb) (w : World) (hA : TabsAt w w.heap.size A l) (hl : l.length ≤ maxLen) (hi : ∀ t ∈ l, t.cols.length ≤ maxLen) :
    Calls Tryd.prog 9 #[.agg #[.slice A l.length cp]] w fun e w' => e = .returned (.bool (fewCat l)) ∧ Below w.heap.size w w' := by
  unfold maxLen at hl
  obtain ⟨w0, hw0, hb0, hB, hs0⟩ := box_one w (.slice A l.length cp) 24
  have Hw0 := Lib.hid hw0; clear hw0
  have Hb0 := Lib.hid hb0
  have HA := Lib.hid (hA.to hb0); clear hA hb0
  have HB := Lib.hid hB.one; clear hB
  have Hs0 := Lib.hid hs0; clear hs0
  have HI := Lib.hid hi; clear hi
  have Hv : Hid (fewCat l = (decide ((l.length : Int) ≤ 10) && l.all fewT)) := rfl
  have e1 : decide (10 < (l.length : Int)) = !decide ((l.length : Int) ≤ 10) := by apply bool_eq; simp
  generalize decide ((l.length : Int) ≤ 10) = b1 at Hv e1
  cases b1
  · replace e1 : decide (10 < (l.length : Int)) = true := e1
    go_enter Tryd.func9, Tryd.ntmps9
    go_wp2_with fail
    go_ret
    exact ⟨by rw [Hv.out]; rfl, by go_grown⟩
  replace e1 : decide (10 < (l.length : Int)) = false := e1
  replace Hv : Hid (fewCat l = l.all fewT) := by show _ = _; rw [Hv.out]; simp
  go_enter Tryd.func9, Tryd.ntmps9
  go_wp2_with fail
  rw [Hw0.out]
  clear e1
  go_loopw [3] (fun i wr => ∃ k : Nat, k ≤ l.length ∧ i = .int .i64 k ∧ Hid (∀ j c, l[j]? = some c → j < k → fewT c = true) ∧ Hid (Below w0.heap.size w0 wr)) (fun i _ => l.length - (intOf i).toNat)
  case atStart => exact ⟨0, by omega, rfl, fun j v _ h => absurd h (by omega), Below.refl _ _⟩
  case round =>
    obtain ⟨k, hk, rfl, hall, hb⟩ := hrel
    have Hbw := Lib.hid (bthen Hb0.out hb.out)
    have c0 : wr.cell? ⟨w.heap.size, 0, none⟩ = some (.slice A l.length cp) := (hb.out.cell (by have := Hs0.out; simp; omega)).trans HB.out
    by_cases hlt : k < l.length
    · obtain ⟨x, hx⟩ : ∃ x, l[k]? = some x := ⟨l[k], by simp [hlt]⟩
      have Hx := Lib.hid hx
      obtain ⟨b, off, hAe, hbB, d0, d1, d2, d3, d4⟩ := (HA.out.below hb.out).get k x hx
      rw [hAe] at c0
      have HF := Lib.hid (few8_any x wr ((HA.out.to hb.out).2 x (List.mem_of_getElem? hx)) (HI.out x (List.mem_of_getElem? hx)))
      clear hAe hx
      cases hp : fewT x
      · have Hno : Hid (l.all fewT = false) := all_stop8 Hx.out hp
        rw [hp] at HF
        clear hp
        go_wp2_with fail
        refine HF.out.mono ?_
        rintro e w1 ⟨rfl, hb1⟩
        have Hb1 := Lib.hid (bthen Hbw.out hb1); clear hb1
        go_wp2_with fail
        go_ret
        exact ⟨by rw [Hv.out, Hno.out]; rfl, Hb1.out⟩
      · have Hall : Hid (∀ j c, l[j]? = some c → j < k + 1 → fewT c = true) := fun j y hj hk => by
          by_cases e : j = k
          · subst e
            rw [Hx.out] at hj
            cases hj
            exact hp
          · exact hall.out j y hj (by omega)
        rw [hp] at HF
        clear hp
        go_wp2_with fail
        refine HF.out.mono ?_
        rintro e w1 ⟨rfl, hb1⟩
        have Hb1 := Lib.hid (bthen hb.out hb1); clear hb1
        go_wp2_with fail
        go_roundw
        case rel => exact ⟨k + 1, by omega, by go_num, Hall.out, Hb1.out⟩
        case measure => simp [intOf]; omega
    · have Hyes : Hid (l.all fewT = true) := all_at fun j x hj => hall.out j x hj (by have := (List.getElem?_eq_some_iff.1 hj).1; omega)
      go_wp2_with fail
      go_ret
      exact ⟨by rw [Hv.out, Hyes.out]; rfl, Hbw.out⟩

/-- what 'found' asks of a pair and of the document's own number -/
theorem found_any (o : Option Nat) (w : World) (ho : ∀ k, o = some k → k ≤ 1000000) :
    Calls Tryd.prog 19 #[.int .i64 ((o.getD 0 : Nat) : Int), .bool o.isSome, .int .i64 (idxI o)] w fun e w' => e = .returned (.bool true) ∧ w = w' := by
  cases o with
  | none =>
    show Calls Tryd.prog 19 #[.int .i64 0, .bool false, .int .i64 (-1)] w _
    go_enter Tryd.func19, Tryd.ntmps19
    go_wp2_with fail
    go_ret
    exact ⟨rfl, rfl⟩
  | some k =>
    have hk := ho k rfl
    clear ho
    show Calls Tryd.prog 19 #[.int .i64 (k : Int), .bool true, .int .i64 (k : Int)] w _
    have h0 : decide ((0 : Int) ≤ (k : Int)) = true := by simp
    go_enter Tryd.func19, Tryd.ntmps19
    go_wp2_with fail
    go_ret
    exact ⟨rfl, rfl⟩
end Go.Proofs.YtmcgcanpaffggaaDoor
