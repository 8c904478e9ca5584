/-
  Texts that the proof needs, one behind the other: SchOpen, HasB, ValDigC, ValRefDigC, TypCastC, TypWidenMath, DdlMath, DdlMath2.
-/
import Derived.Test.YthmjgaekcghonaaGreatDoorPart1
import Derived.Test.YthmjgaekcghonaaGreatDoorPart2
import Derived.Test.YthmjgaekcghonaaGreatDoorPart3

/-
  Parameters of type api.Catalog, api.Table and []api.Field, opened.
-/
namespace Go.Proofs.YthmjgaekcghonaaGreatDoor
open Go.RowKit Go.WideShapes

/-! ### Opening -/
theorem row_open {α : Type} [Inhabited α] {H : Type} {enc : TypeId × Value → H} {W : World} {sp : Nat → Bool} {m : Nat} {f : α → List Value} {Q : α → Prop} {ts e : TypeId} (hts : Tryz.prog.underlying ts = some (.slice e)) (hm : Tryz.prog.cellsOf e = m)
    (hone : ∀ fuel cs x, DataW.trod enc Tryz.prog W 0 sp true fuel e cs = some x → ∃ a, cs = f a ∧ Q a) (hf0 : ∀ a, ∃ v, (f a)[0]? = some v)
    {fuel : Nat} {v : Value} {x : DataW H × List MemPlace} (h : DataW.trod enc Tryz.prog W 0 sp true fuel ts [v] = some x) : ∃ a len cap, v = .slice a len cap ∧ ∃ l : List α, l.length = len ∧ len ≤ maxLen ∧ len ≤ cap ∧ RowAt m f W W.heap.size a l ∧ ∀ x ∈ l, Q x := by
  rcases Go.Deep.open_slice hts h with ⟨hcs, _⟩ | ⟨x, len, cap, m', n, D, Pl, hcs, hb, hl, hmx, hmm, _, hx⟩
  · obtain rfl : v = .slice none 0 0 := by simpa using hcs
    exact ⟨none, 0, 0, rfl, [], rfl, Nat.zero_le _, Nat.zero_le _, fun hp => absurd hp (by simp), by simp⟩
  · obtain rfl : v = .slice (some x) len cap := by simpa using hcs
    rw [hm] at hx
    have hlm : len ≤ m' := by rw [hmm]; split <;> omega
    have one : ∀ i, i < len → ∃ a : α, (∀ j v, (f a)[j]? = some v → W.cell? ((x.add (i * m)).add j) = some v) ∧ Q a := fun i hi => by
      obtain ⟨cs, h1, h2⟩ := hx i (by omega)
      obtain ⟨_, hlen, hc⟩ := World.cells?_some h1
      obtain ⟨a, rfl, hq⟩ := hone _ _ _ h2
      refine ⟨a, fun j v hv => ?_, hq⟩
      rw [hc j (by have := (List.getElem?_eq_some_iff.1 hv).1; omega)]
      exact hv
    obtain ⟨g, hg⟩ := Go.Deep.choose_lt one
    refine ⟨some x, len, cap, rfl, (List.range len).map g, by simp, by omega, hl, fun hp => ?_, fun y hy => ?_⟩
    · simp at hp
      obtain ⟨v0, hv0⟩ := hf0 (g 0)
      have e0 := (hg 0 hp).1 0 v0 hv0
      obtain ⟨b, off, spt⟩ := x
      obtain rfl : spt = none := by simpa [Addr.add] using World.cell?_spot e0
      have hlt := World.block_lt_of_cell? W _ e0
      rw [Addr.add_lit, Addr.add_lit] at hlt
      refine ⟨b, off, rfl, hlt, fun j t hj i v hv => ?_⟩
      have hjl : j < len := by
        have := (List.getElem?_eq_some_iff.1 hj).1
        simpa using this
      have ht : g j = t := by simpa [hjl] using hj
      subst ht
      have := (hg j hjl).1 i v hv
      simp only [Addr.add_lit] at this
      exact this
    · simp at hy
      obtain ⟨i, hi, rfl⟩ := hy
      exact (hg i hi).2
instance : Inhabited Cb := ⟨⟨0, ByteArray.empty, 0, 0, false, 0, 0, ByteArray.empty⟩⟩
instance : Inhabited Tb := ⟨⟨0, ByteArray.empty, 0, 0, none, 0, []⟩⟩
instance : Inhabited Fb := ⟨⟨ByteArray.empty, 0, 0, ByteArray.empty⟩⟩
/-- what is known of a column that comes in, of a table, of a field, of a value -/
def InC (c : Cb) : Prop := (Lit.int .i64 c.id).wf = true ∧ c.nm.size ≤ maxLen ∧ (Lit.int .i64 c.tk).wf = true ∧ (Lit.int .i64 c.tm).wf = true ∧ (Lit.int .i64 c.dk).wf = true ∧ (Lit.int .i64 c.dn).wf = true ∧ c.ds.size ≤ maxLen
def InT (w : World) (t : Tb) : Prop := (Lit.int .i64 t.id).wf = true ∧ t.nm.size ≤ maxLen ∧ (Lit.int .i64 t.key).wf = true ∧ (Lit.int .i64 t.nx).wf = true ∧ t.cols.length ≤ maxLen ∧ t.cols.length ≤ t.cap ∧ TabAt w w.heap.size t ∧ ∀ c ∈ t.cols, InC c
def InF (f : Fb) : Prop := f.nm.size ≤ maxLen ∧ (Lit.int .i64 f.k).wf = true ∧ (Lit.int .i64 f.n).wf = true ∧ f.s.size ≤ maxLen
set_option maxRecDepth 100000 in
theorem q_int : Tryz.prog.cellsOf 3 = 1 := by kernel_rfl
set_option maxRecDepth 100000 in
theorem q_int64 : Tryz.prog.cellsOf 2 = 1 := by kernel_rfl
set_option maxRecDepth 100000 in
theorem q_string : Tryz.prog.cellsOf 9 = 1 := by kernel_rfl
set_option maxRecDepth 100000 in
theorem q_bool : Tryz.prog.cellsOf 4 = 1 := by kernel_rfl
set_option maxRecDepth 100000 in
theorem q_type : Tryz.prog.cellsOf 26 = 2 := by kernel_rfl
set_option maxRecDepth 100000 in
theorem q_col : Tryz.prog.cellsOf 63 = 8 := by kernel_rfl
set_option maxRecDepth 100000 in
theorem q_cols : Tryz.prog.cellsOf 29 = 1 := by kernel_rfl
set_option maxRecDepth 100000 in
theorem q_tab : Tryz.prog.cellsOf 51 = 5 := by kernel_rfl
set_option maxRecDepth 100000 in
theorem q_tabs : Tryz.prog.cellsOf 22 = 1 := by kernel_rfl
set_option maxRecDepth 100000 in
theorem q_cat : Tryz.prog.cellsOf 24 = 1 := by kernel_rfl
set_option maxRecDepth 100000 in
theorem val_of {H : Type} {enc : TypeId × Value → H} {W : World} {sp : Nat → Bool} {fuel : Nat} {c0 c1 c2 : Value} {y : DataW H × List MemPlace}
    (h : DataW.trod enc Tryz.prog W 0 sp true fuel 28 [c0, c1, c2] = some y) : ∃ (k n : Int) (s : ByteArray), c0 = .int .i64 k ∧ c1 = .int .i64 n ∧ c2 = .string s ∧ (Lit.int .i64 k).wf = true ∧ (Lit.int .i64 n).wf = true ∧ s.size ≤ maxLen := by
  obtain ⟨y0, y1, y2, n', _, _, t0, t1, t2⟩ := Go.Deep.trod_struct3 Tryz.underlying28 h
  simp [q_int, q_int64, q_string] at t0 t1 t2
  obtain ⟨k, r0, _, w0⟩ := DataW.trod_int Tryz.underlying3 t0
  obtain ⟨n, r1, _, w1⟩ := DataW.trod_int Tryz.underlying2 t1
  obtain ⟨s, r2, _, w2⟩ := DataW.trod_string Tryz.underlying9 t2
  simp at r0 r1 r2
  exact ⟨k, n, s, r0, r1, r2, w0, w1, w2⟩
set_option maxRecDepth 100000 in
theorem typ_of {H : Type} {enc : TypeId × Value → H} {W : World} {sp : Nat → Bool} {fuel : Nat} {c0 c1 : Value} {y : DataW H × List MemPlace}
    (h : DataW.trod enc Tryz.prog W 0 sp true fuel 26 [c0, c1] = some y) : ∃ k m : Int, c0 = .int .i64 k ∧ c1 = .int .i64 m ∧ (Lit.int .i64 k).wf = true ∧ (Lit.int .i64 m).wf = true := by
  obtain ⟨xs, n', _, _, _, hlen, hf⟩ := DataW.trod_struct Tryz.underlying26 h
  match xs, hlen with
  | [y0, y1], _ =>
    have t0 := hf 0 _ rfl
    have t1 := hf 1 _ rfl
    simp [q_int] at t0 t1
    obtain ⟨k, r0, _, w0⟩ := DataW.trod_int Tryz.underlying3 t0
    obtain ⟨m, r1, _, w1⟩ := DataW.trod_int Tryz.underlying3 t1
    simp at r0 r1
    exact ⟨k, m, r0, r1, w0, w1⟩
set_option maxRecDepth 100000 in
theorem col_of {H : Type} {enc : TypeId × Value → H} {W : World} {sp : Nat → Bool} (fuel : Nat) (cs : List Value) (y : DataW H × List MemPlace)
    (h : DataW.trod enc Tryz.prog W 0 sp true fuel 63 cs = some y) : ∃ c : Cb, cs = fC c ∧ InC c := by
  obtain ⟨xs, n', _, _, hl, hlen, hf⟩ := DataW.trod_struct Tryz.underlying63 h
  rw [q_col] at hl
  match xs, hlen with
  | [y0, y1, y2, y3, y4], _ =>
    match cs, hl with
    | [c0, c1, c2, c3, c4, c5, c6, c7], _ =>
      have t0 := hf 0 _ rfl
      have t1 := hf 1 _ rfl
      have t2 := hf 2 _ rfl
      have t3 := hf 3 _ rfl
      have t4 := hf 4 _ rfl
      simp [q_int, q_string, q_bool, q_type, cellsV] at t0 t1 t2 t3 t4
      obtain ⟨i, r0, _, w0⟩ := DataW.trod_int Tryz.underlying3 t0
      obtain ⟨s, r1, _, w1⟩ := DataW.trod_string Tryz.underlying9 t1
      obtain ⟨k, m, rfl, rfl, w2, w3⟩ := typ_of t2
      obtain ⟨b, r3, _⟩ := DataW.trod_bool Tryz.underlying4 t3
      obtain ⟨dk, dn, ds, rfl, rfl, rfl, w5, w6, w7⟩ := val_of t4
      simp at r0 r1 r3
      subst r0 r1 r3
      exact ⟨⟨i, s, k, m, b, dk, dn, ds⟩, rfl, w0, w1, w2, w3, w5, w6, w7⟩
set_option maxRecDepth 100000 in
theorem tab8_of {H : Type} {enc : TypeId × Value → H} {W : World} {sp : Nat → Bool} (fuel : Nat) (cs : List Value) (y : DataW H × List MemPlace)
    (h : DataW.trod enc Tryz.prog W 0 sp true fuel 51 cs = some y) : ∃ c : Tb, cs = fT c ∧ InT W c := by
  obtain ⟨xs, n', _, _, hl, hlen, hf⟩ := DataW.trod_struct Tryz.underlying51 h
  rw [q_tab] at hl
  match xs, hlen with
  | [y0, y1, y2, y3, y4], _ =>
    match cs, hl with
    | [c0, c1, c2, c3, c4], _ =>
      have t0 := hf 0 _ rfl
      have t1 := hf 1 _ rfl
      have t2 := hf 2 _ rfl
      have t3 := hf 3 _ rfl
      have t4 := hf 4 _ rfl
      simp [q_int, q_string, q_cols] at t0 t1 t2 t3 t4
      obtain ⟨i, r0, _, w0⟩ := DataW.trod_int Tryz.underlying3 t0
      obtain ⟨s, r1, _, w1⟩ := DataW.trod_string Tryz.underlying9 t1
      obtain ⟨k, r2, _, w2⟩ := DataW.trod_int Tryz.underlying3 t2
      obtain ⟨x, r3, _, w3⟩ := DataW.trod_int Tryz.underlying3 t3
      obtain ⟨a, len, cap, rfl, l, rfl, hl1, hlc, hl2, hl3⟩ := row_open Tryz.underlying29 q_col col_of (fun a => ⟨_, rfl⟩) t4
      simp at r0 r1 r2 r3
      subst r0 r1 r2 r3
      exact ⟨⟨i, s, k, x, a, cap, l⟩, rfl, w0, w1, w2, w3, hl1, hlc, hl2, hl3⟩
set_option maxRecDepth 100000 in
theorem openTab {H : Type} {enc : TypeId × Value → H} {W : World} {base : Nat} {v : Value} {d : DataW H} {p : List MemPlace} {sp : Nat → Bool}
    (hv : Value.okWide Tryz.prog W .any base 51 v) (h : DataW.Trod enc Tryz.prog W 0 sp true 51 v d p) : ∃ t : Tb, v = TV t ∧ InT W t := by
  obtain ⟨cs, rfl, _⟩ := okWide_struct Tryz.underlying51 hv
  obtain ⟨fuel, hf⟩ := h
  obtain ⟨t, h1, h2⟩ := tab8_of _ _ _ hf
  refine ⟨t, ?_, h2⟩
  simp only [Value.cells] at h1
  show Value.agg cs = Value.agg (fT t).toArray
  rw [← h1]
/-- a catalog's tables -/
def TabsIn (w : World) (A : Option Addr) (cap : Nat) (l : List Tb) : Prop := l.length ≤ maxLen ∧ l.length ≤ cap ∧ TabsAt w w.heap.size A l ∧ ∀ t ∈ l, InT w t
def FldsIn (w : World) (A : Option Addr) (cap : Nat) (l : List Fb) : Prop := l.length ≤ maxLen ∧ l.length ≤ cap ∧ FldsAt w w.heap.size A l ∧ ∀ f ∈ l, InF f
set_option maxRecDepth 100000 in
theorem openCat {H : Type} {enc : TypeId × Value → H} {W : World} {base : Nat} {v : Value} {d : DataW H} {p : List MemPlace} {sp : Nat → Bool}
    (hv : Value.okWide Tryz.prog W .any base 24 v) (h : DataW.Trod enc Tryz.prog W 0 sp true 24 v d p) : ∃ A cap, ∃ l : List Tb, v = .agg #[.slice A l.length cap] ∧ TabsIn W A cap l := by
  obtain ⟨cs, rfl, hsz⟩ := okWide_struct Tryz.underlying24 hv
  obtain ⟨fuel, hf⟩ := h
  rw [q_cat] at hsz
  obtain ⟨xs, n', _, _, hl, hlen, hg⟩ := DataW.trod_struct Tryz.underlying24 hf
  match xs, hlen with
  | [y0], _ =>
    obtain ⟨cl⟩ := cs
    match cl, hsz with
    | [c0], _ =>
      have t0 := hg 0 _ rfl
      simp [q_tabs, Value.cells] at t0
      obtain ⟨a, len, cap, rfl, l, rfl, hl1, hlc, hl2, hl3⟩ := row_open Tryz.underlying22 q_tab tab8_of (fun a => ⟨_, rfl⟩) t0
      exact ⟨a, cap, l, rfl, hl1, hlc, ⟨hl2, fun t ht => (hl3 t ht).2.2.2.2.2.2.1⟩, hl3⟩
/-- a row of values with what is known of its capacity -/
def RowIn (w : World) (A : Option Addr) (cap : Nat) (l : List Vb) : Prop := l.length ≤ maxLen ∧ (A = none → cap = 0) ∧ ValsAt w w.heap.size A l ∧ ∀ v ∈ l, (Lit.int .i64 v.1).wf = true ∧ (Lit.int .i64 v.2.1).wf = true ∧ v.2.2.size ≤ maxLen
end Go.Proofs.YthmjgaekcghonaaGreatDoor

/-
  A row of bytes that may be written, whatever its mark.
-/
namespace Go.Proofs.YthmjgaekcghonaaGreatDoor
open Go.RowKit

/-- a row of bytes that may be written, whatever its mark -/
def HasB (w : World) (g : Nat) (l : List UInt8) : Prop :=
  (∀ j (hj : j < l.length), w.cell? ⟨g, j, none⟩ = some (.int .u8 (l[j].toNat : Int))) ∧ ∀ j, j < l.length → w.frozen? ⟨g, j, none⟩ = false
theorem HasB.set {w : World} {g : Nat} {l : List UInt8} (h : HasB w g l) (k : Nat) (hk : k < l.length) (c : UInt8) (z : Int) (hz : z = (c.toNat : Int)) : HasB (w.setCell ⟨g, k, none⟩ (.int .u8 z)) g (l.set k c) := by
  subst hz
  refine ⟨fun j hj => ?_, fun j hj => ?_⟩
  · rw [List.length_set] at hj
    by_cases e : k = j
    · subst e
      rw [World.cell?_setCell_same _ _ _ (h.1 k hk)]; simp
    · rw [World.cell?_setCell_other _ _ _ _ (by intro e2; cases e2; exact e rfl), h.1 j hj, List.getElem_set_ne e]
  · rw [List.length_set] at hj
    rw [World.frozen?_setCell]; exact h.2 j hj
theorem HasB.below {w w' : World} {g B : Nat} {l : List UInt8} (h : HasB w g l) (hb : Below B w w') (hg : g < B) : HasB w' g l :=
  ⟨fun j hj => (hb.cell (p := ⟨g, j, none⟩) hg).trans (h.1 j hj), fun j hj => (hb.frozen (p := ⟨g, j, none⟩) hg).trans (h.2 j hj)⟩
theorem HasB.new (w : World) (s : ByteArray) (cap : Nat) (hc : s.size ≤ cap) : HasB (w.drew.alloc (.cells (bytesRow s cap) 5 ((bytesRow s cap).size, (bytesRow s cap).size + 1))) w.heap.size (bs s) := by
  have hsz : (bytesRow s cap).size = cap := by unfold bytesRow; simp; have : s.data.size = s.size := rfl; omega
  refine ⟨fun j hj => ?_, fun j hj => ?_⟩
  · rw [bs_length] at hj
    have := World.cell?_alloc_mark w.drew (bytesRow s cap) 5 ((bytesRow s cap).size, (bytesRow s cap).size + 1) j
    refine this.trans ?_
    rw [bytesRow_at s cap j hj]
    simp [bs]
  · rw [bs_length] at hj
    have := World.frozen?_alloc_mark w.drew (bytesRow s cap) 5 (bytesRow s cap).size ((bytesRow s cap).size + 1) j
    refine this.trans ?_
    rw [hsz]; simp; omega
theorem run_string_has {w : World} {g cap n : Nat} {l : List UInt8} (h : HasB w g l) (hn : n = l.length) :
    (convert 137 9 (.slice (some ⟨g, 0, none⟩) n cap)).run Tryz.prog w = .ok (.string ⟨l.toArray⟩) w := by
  subst hn
  refine run_convert_bytes_back w 137 9 5 ⟨g, 0, none⟩ cap l Tryz.underlying137 Tryz.underlying5 Tryz.underlying9 fun j hj => ?_
  rw [Addr.add_lit, Nat.zero_add]
  exact h.1 j hj

theorem bytes_of (w : World) (s : ByteArray) : ∃ cap w2, (convert 9 137 (.string s)).run Tryz.prog w = .ok (.slice (some ⟨w.heap.size, 0, none⟩) s.size cap) w2 ∧
    HasB w2 w.heap.size (bs s) ∧ Below w.heap.size w w2 ∧ w2.heap.size = w.heap.size + 1 := by
  refine ⟨_, _, run_bytes_of_string w 9 137 5 s Tryz.underlying9 Tryz.underlying137 Tryz.underlying5, HasB.new w s _ (grownCap_ge w s.size 0 5), ?_, ?_⟩
  · exact ((Below.refl w.heap.size w).drew).alloc (Nat.le_refl _) _
  · show (w.heap.push _).size = _
    simp
end Go.Proofs.YthmjgaekcghonaaGreatDoor

/-
  Contracts of package value's Digits and of the document's own.
-/
namespace Go.Proofs.YthmjgaekcghonaaGreatDoor
open Go.RowKit

/-- the digits of m are written from behind as far as place st; q is left -/
def Dig (m q st : Nat) (l : List UInt8) : Prop := l.length = 20 ∧ ((st = 20 ∧ q = m) ∨ (st < 20 ∧ ((q = 0 ∧ dn m = l.drop st) ∨ (q ≠ 0 ∧ dn m = dn q ++ l.drop st))))
theorem Dig.start (m : Nat) : Dig m m 20 (List.replicate 20 0) := ⟨rfl, .inl ⟨rfl, rfl⟩⟩
theorem set_drop (l : List UInt8) (k : Nat) (c : UInt8) (h : k < l.length) : (l.set k c).drop k = c :: l.drop (k + 1) := by
  rw [List.drop_eq_getElem_cons (by simpa using h), List.getElem_set_self, List.drop_set_of_lt (by omega)]
theorem Dig.more {m q st : Nat} {l : List UInt8} (h : Dig m q st l) (hm : m < 10000000000000000000) (hq : q ≠ 0 ∨ st = 20) : ∃ t, st = t + 1 ∧ 1 ≤ t ∧ t < 20 ∧ Dig m (q / 10) t (l.set t (dg (q % 10))) := by
  obtain ⟨hl, h⟩ := h
  have hlen := dn_len m 19 (by simpa using hm) (by omega)
  have key : ∀ t, t < 20 → ∀ (r : List UInt8), l.drop (t + 1) = r → dn m = dn q ++ r → Dig m (q / 10) t (l.set t (dg (q % 10))) := by
    intro t ht r hr he
    refine ⟨by simpa using hl, .inr ⟨ht, ?_⟩⟩
    rw [set_drop _ _ _ (by omega), hr]
    by_cases h10 : q < 10
    · exact .inl ⟨by omega, by rw [he, dn_lt h10, Nat.mod_eq_of_lt h10]; rfl⟩
    · exact .inr ⟨by omega, by rw [he, dn_ge (by omega)]; simp⟩
  rcases h with ⟨rfl, rfl⟩ | ⟨h1, ⟨rfl, h3⟩ | ⟨h2, h3⟩⟩
  · exact ⟨19, rfl, by omega, by omega, key 19 (by omega) [] (by rw [List.drop_eq_nil_of_le (by omega)]) (by simp)⟩
  · rcases hq with hq | hq
    · exact absurd rfl hq
    · omega
  · have h4 := congrArg List.length h3
    have h5 := List.length_pos_iff.2 (dn_ne q)
    rw [List.length_append, List.length_drop, hl] at h4
    exact ⟨st - 1, by omega, by omega, by omega, key (st - 1) (by omega) (l.drop st) (by rw [show st - 1 + 1 = st by omega]) h3⟩
theorem Dig.stop {m st : Nat} {l : List UInt8} (h : Dig m 0 st l) (hm : m < 10000000000000000000) (hs : st ≠ 20) : l.length = 20 ∧ ∃ t, st = t + 1 ∧ t < 19 ∧ l.drop (t + 1) = dn m := by
  obtain ⟨hl, h⟩ := h
  have hlen := dn_len m 19 (by simpa using hm) (by omega)
  rcases h with ⟨rfl, _⟩ | ⟨h1, ⟨_, h3⟩ | ⟨h2, h3⟩⟩
  · exact absurd rfl hs
  · have h4 := congrArg List.length h3
    rw [List.length_drop, hl] at h4
    exact ⟨hl, st - 1, by omega, by omega, by rw [h3, show st - 1 + 1 = st by omega]⟩
  · exact absurd rfl h2
theorem HasB.zeros (w : World) (t : TypeId) : HasB (w.alloc (.cells #[.int .u8 0, .int .u8 0, .int .u8 0, .int .u8 0, .int .u8 0, .int .u8 0, .int .u8 0, .int .u8 0, .int .u8 0, .int .u8 0, .int .u8 0, .int .u8 0, .int .u8 0, .int .u8 0, .int .u8 0, .int .u8 0, .int .u8 0, .int .u8 0, .int .u8 0, .int .u8 0] t)) w.heap.size (List.replicate 20 0) := by
  refine ⟨fun j hj => ?_, fun j hj => ?_⟩
  · have e : (#[Value.int .u8 0, .int .u8 0, .int .u8 0, .int .u8 0, .int .u8 0, .int .u8 0, .int .u8 0, .int .u8 0, .int .u8 0, .int .u8 0, .int .u8 0, .int .u8 0, .int .u8 0, .int .u8 0, .int .u8 0, .int .u8 0, .int .u8 0, .int .u8 0, .int .u8 0, .int .u8 0] : Array Value) = Array.replicate 20 (.int .u8 0) := rfl
    have hj' : j < 20 := by simpa using hj
    rw [e, List.getElem_replicate]
    simp [hj']
  · simp
/-- the end of a row of bytes, made into a string -/
theorem run_string_end {w : World} {g st n cap : Nat} {l r : List UInt8} (h : HasB w g l) (hr : l.drop st = r) (hn : n = r.length) :
    (convert 137 9 (.slice (some ⟨g, st, none⟩) n cap)).run Tryz.prog w = .ok (.string ⟨r.toArray⟩) w := by
  subst hn
  refine run_convert_bytes_back w 137 9 5 ⟨g, st, none⟩ cap r Tryz.underlying137 Tryz.underlying5 Tryz.underlying9 fun j hj => ?_
  subst hr
  rw [List.length_drop] at hj
  rw [Addr.add_lit, h.1 (st + j) (by omega), List.getElem_drop]

set_option maxRecDepth 100000 in
theorem run_slice_arr (w : World) (b t : Nat) (ht : t < 20) : (Instr.sliceAt 135 (.pointer (some ⟨b, 0, none⟩)) (some (.int .i64 (t : Nat))) none none).run Tryz.prog w = .ok (.slice (some ⟨b, t, none⟩) (20 - t) (20 - t)) w := by
  have h := run_sliceAt_array_l (P := Tryz.prog) w 135 ⟨b, 0, none⟩ (by kernel_rfl) .i64 (t : Nat) (by omega) (by show (t : Int) ≤ ((20 : Nat) : Int); omega)
  have e1 : Tryz.prog.arrayLen 135 = 20 := by kernel_rfl
  have hne : 20 ≠ t := by omega
  rw [h, e1]
  simp [go_sem, hne]
set_option maxRecDepth 100000 in
set_option maxHeartbeats 800000 in
theorem digits_any (n : Int) (w : World) (h1 : -9223372036854775808 ≤ n) (h2 : n < 9223372036854775808) : Calls Tryz.prog 124 #[.int .i64 n] w fun e w' => e = .returned (.string ⟨(dz n).toArray⟩) ∧ Below w.heap.size w w' := by
  have Hd : Hid (dz n = if n < 0 then 45 :: dn n.natAbs else dn n.natAbs) := rfl
  have hm : n.natAbs < 10000000000000000000 := by omega
  by_cases h : n < 0
  · have d : decide (n < 0) = true := by simpa using h
    rw [if_pos h] at Hd
    have He : Hid (IntKind.u64.wrap (-IntKind.u64.wrap n) = (n.natAbs : Int)) := by show _ = _; go_arith
    have Hm := Lib.hid hm; clear hm h
    generalize n.natAbs = m at He Hm Hd
    go_enter Tryz.func124, Tryz.ntmps124
    go_wp2_with fail
    simp only [He.out]
    go_loopw [4, 5] (fun r i wr => ∃ (q st : Nat) (l : List UInt8), r = .int .u64 q ∧ i = .int .i64 st ∧ st ≤ 20 ∧ q < 10000000000000000000 ∧ Hid (Dig m q st l) ∧ Hid (HasB wr w.heap.size l) ∧ Below w.heap.size w wr) (fun _ i _ => (intOf i).toNat)
    case atStart => exact ⟨m, 20, _, rfl, rfl, by omega, Hm.out, Dig.start m, HasB.zeros w _, by go_grown⟩
    case round =>
      obtain ⟨q, st, l, rfl, rfl, hst, hq, hd, hh, hb⟩ := hrel
      by_cases hgo : q ≠ 0 ∨ st = 20
      · obtain ⟨t, rfl, ht1, ht, hdn⟩ := hd.out.more Hm.out hgo
        have Hn := Lib.hid hdn; clear hdn
        have hl : t < l.length := by rw [hd.out.1]; exact ht
        obtain ⟨v, c1⟩ : ∃ v, wr.cell? ⟨w.heap.size, t, none⟩ = some v := ⟨_, hh.out.1 t hl⟩
        have f1 := hh.out.2 t hl
        have Hset := Lib.hid (hh.out.set t hl (dg (q % 10)) (48 + (q : Int) % 10) (by rw [dg_nat _ (by omega)]; omega))
        have d1 : ((q : Int) != 0) = true ∨ (((q : Int) != 0) = false ∧ t = 19) := by
          rcases hgo with h | h
          · exact .inl (by simp; omega)
          · by_cases hq0 : q = 0
            · exact .inr ⟨by simp; omega, by omega⟩
            · exact .inl (by simp; omega)
        clear hgo hl
        rcases d1 with d1 | ⟨d1, rfl⟩
        all_goals
          go_wp2_with fail
          go_roundw
          case rel => exact ⟨q / 10, _, _, by go_num, by go_num, by omega, by omega, Hn.out, Hset.out, hb.setCell (by simp) _⟩
          case measure => simp [intOf]
      · obtain rfl : q = 0 := Classical.byContradiction fun h => hgo (.inl h)
        obtain ⟨hl, t, rfl, ht, hdr⟩ := hd.out.stop Hm.out (fun h => hgo (.inr h))
        have Hset := Lib.hid (hh.out.set t (by omega) 45 45 rfl)
        have hl1 : t < l.length := by omega
        obtain ⟨v, c1⟩ : ∃ v, wr.cell? ⟨w.heap.size, t, none⟩ = some v := ⟨_, hh.out.1 t hl1⟩
        have f1 := hh.out.2 t hl1
        have d2 : ((t : Int) + 1 == 20) = false := by simp; omega
        have hsl := fun w' => run_slice_arr w' w.heap.size t (by omega)
        have hcv := run_string_end (cap := 20 - t) (st := t) (n := 20 - t) Hset.out (set_drop _ _ _ hl1) (by rw [List.length_cons, List.length_drop]; omega)
        rw [hdr] at hcv
        clear hgo hl hl1 hdr
        go_wp2_with fail
        go_ret
        exact ⟨by rw [Hd.out]; rfl, hb.setCell (by simp) _⟩
  · have d : decide (n < 0) = false := by simpa using h
    rw [if_neg h] at Hd
    have He : Hid (IntKind.u64.wrap n = (n.natAbs : Int)) := by show _ = _; go_arith
    have Hm := Lib.hid hm; clear hm h
    generalize n.natAbs = m at He Hm Hd
    go_enter Tryz.func124, Tryz.ntmps124
    go_wp2_with fail
    simp only [He.out]
    go_loopw [4, 5] (fun r i wr => ∃ (q st : Nat) (l : List UInt8), r = .int .u64 q ∧ i = .int .i64 st ∧ st ≤ 20 ∧ q < 10000000000000000000 ∧ Hid (Dig m q st l) ∧ Hid (HasB wr w.heap.size l) ∧ Below w.heap.size w wr) (fun _ i _ => (intOf i).toNat)
    case atStart => exact ⟨m, 20, _, rfl, rfl, by omega, Hm.out, Dig.start m, HasB.zeros w _, by go_grown⟩
    case round =>
      obtain ⟨q, st, l, rfl, rfl, hst, hq, hd, hh, hb⟩ := hrel
      by_cases hgo : q ≠ 0 ∨ st = 20
      · obtain ⟨t, rfl, ht1, ht, hdn⟩ := hd.out.more Hm.out hgo
        have Hn := Lib.hid hdn; clear hdn
        have hl : t < l.length := by rw [hd.out.1]; exact ht
        obtain ⟨v, c1⟩ : ∃ v, wr.cell? ⟨w.heap.size, t, none⟩ = some v := ⟨_, hh.out.1 t hl⟩
        have f1 := hh.out.2 t hl
        have Hset := Lib.hid (hh.out.set t hl (dg (q % 10)) (48 + (q : Int) % 10) (by rw [dg_nat _ (by omega)]; omega))
        have d1 : ((q : Int) != 0) = true ∨ (((q : Int) != 0) = false ∧ t = 19) := by
          rcases hgo with h | h
          · exact .inl (by simp; omega)
          · by_cases hq0 : q = 0
            · exact .inr ⟨by simp; omega, by omega⟩
            · exact .inl (by simp; omega)
        clear hgo hl
        rcases d1 with d1 | ⟨d1, rfl⟩
        all_goals
          go_wp2_with fail
          go_roundw
          case rel => exact ⟨q / 10, _, _, by go_num, by go_num, by omega, by omega, Hn.out, Hset.out, hb.setCell (by simp) _⟩
          case measure => simp [intOf]
      · obtain rfl : q = 0 := Classical.byContradiction fun h => hgo (.inl h)
        obtain ⟨hl, t, ht0, ht, hdr⟩ := hd.out.stop Hm.out (fun h => hgo (.inr h))
        rw [← ht0] at hdr
        have hst2 : st < 20 := by omega
        have d2 : ((st : Int) == 20) = false := by simp; omega
        have hsl := fun w' => run_slice_arr w' w.heap.size st hst2
        have hcv := run_string_end (cap := 20 - st) (st := st) (n := 20 - st) hh.out hdr (by rw [← hdr, List.length_drop]; omega)
        clear hgo hl hdr ht0 ht
        go_wp2_with fail
        go_ret
        exact ⟨by rw [Hd.out]; rfl, hb⟩
end Go.Proofs.YthmjgaekcghonaaGreatDoor

/-
  Contract of the document's own Digits.
-/
namespace Go.Proofs.YthmjgaekcghonaaGreatDoor
open Go.RowKit

/-- the ten digits as the document has them -/
def ten : ByteArray := ⟨#[48, 49, 50, 51, 52, 53, 54, 55, 56, 57]⟩
theorem ten_cut (n : Int) (h0 : 0 ≤ n) (h1 : n < 10) : ten.extract n.toNat (n + 1).toNat = ⟨(dz n).toArray⟩ := by
  obtain ⟨k, rfl⟩ := Int.eq_ofNat_of_zero_le h0
  have h : ∀ k : Fin 10, bs (ten.extract k.1 (k.1 + 1)) = [dg k.1] := by
    intro k
    rw [bs_extract]
    revert k; decide
  have hk : k < 10 := by omega
  refine bs_eq ?_
  rw [dz_pos h0, Int.natAbs_natCast, dn_lt hk, Int.toNat_natCast, show ((k : Int) + 1).toNat = k + 1 by omega]
  exact h ⟨k, hk⟩
set_option maxRecDepth 100000 in
set_option maxHeartbeats 800000 in
theorem rdigits_one (n : Int) (w : World) (h0 : 0 ≤ n) (h1 : n < 10) : Calls Tryz.prog 78 #[.int .i64 n] w fun e w' => e = .returned (.string ⟨(dz n).toArray⟩) ∧ w = w' := by
  have d1 : decide (-10 < n) = true := by simp; omega
  have d2 : decide (n < 0) = false := by simp; omega
  have d3 : decide (0 ≤ n) = true := by simp; omega
  have d4 : decide (n < 10) = true := by simp; omega
  have Hc := Lib.hid (ten_cut n h0 h1)
  unfold ten at Hc
  go_enter Tryz.func78, Tryz.ntmps78
  go_wp2_with fail
  go_ret
  exact ⟨by rw [← Hc.out]; rfl, rfl⟩
set_option maxRecDepth 100000 in
set_option maxHeartbeats 800000 in
theorem rdigits_minus (n : Int) (w : World) (h0 : -10 < n) (h1 : n < 0) : Calls Tryz.prog 78 #[.int .i64 n] w fun e w' => e = .returned (.string ⟨(dz n).toArray⟩) ∧ w = w' := by
  have d1 : decide (-10 < n) = true := by simp; omega
  have d2 : decide (n < 0) = true := by simp; omega
  have H1 := Lib.hid (fun w => rdigits_one (-n) w (by omega) (by omega))
  have Hs : Hid (⟨#[45]⟩ ++ ⟨(dz (-n)).toArray⟩ = (⟨(dz n).toArray⟩ : ByteArray)) := by
    show _ = _
    refine bs_eq ?_
    rw [bs_append, dz_neg h1]
    show [45] ++ dz (-n) = _
    rw [dz_pos (by omega), Int.natAbs_neg]; rfl
  have hx : (⟨(dz (-n)).toArray⟩ : ByteArray).size ≤ 20 := by rw [ba_size]; exact dz_len _ (by omega) (by omega)
  generalize (⟨(dz (-n)).toArray⟩ : ByteArray) = X at H1 Hs hx
  have hadd := fun w' => run_string_add_sum (P := Tryz.prog) (w := w') ⟨#[45]⟩ X (by show 1 + X.size ≤ _; omega)
  go_enter Tryz.func78, Tryz.ntmps78
  go_wp2_with fail
  refine (H1.out _).mono ?_
  rintro e w1 ⟨rfl, rfl⟩
  go_wp2_with fail
  go_ret
  exact ⟨by rw [← Hs.out]; rfl, rfl⟩
theorem dz_step (n : Int) (h : 10 ≤ n ∨ n ≤ -10) : dz n = dz (n.tdiv 10) ++ dz (n.natAbs % 10 : Nat) := by
  rw [dz_pos (z := (n.natAbs % 10 : Nat)) (by omega), Int.natAbs_natCast, dn_lt (by omega : n.natAbs % 10 < 10)]
  have e : (n.tdiv 10).natAbs = n.natAbs / 10 := by rw [Int.natAbs_tdiv]; rfl
  rcases h with h | h
  · have h0 : 0 ≤ n.tdiv 10 := Int.tdiv_nonneg (by omega) (by omega)
    rw [dz_pos (by omega), dz_pos h0, e, dn_ge (by omega)]
  · have h0 : n.tdiv 10 < 0 := by
      obtain ⟨m, rfl⟩ : ∃ m : Nat, n = -(m : Int) := ⟨n.natAbs, by omega⟩
      rw [Int.neg_tdiv]
      have : ((m : Int)).tdiv 10 = ((m / 10 : Nat) : Int) := rfl
      rw [this]; omega
    rw [dz_neg (by omega), dz_neg h0, e, dn_ge (by omega)]; rfl
theorem tmod_neg (n : Int) (h : n ≤ 0) : n.tmod 10 = -((n.natAbs % 10 : Nat) : Int) := by
  obtain ⟨m, rfl⟩ : ∃ m : Nat, n = -(m : Int) := ⟨n.natAbs, by omega⟩
  rw [Int.neg_tmod, Int.natAbs_neg, Int.natAbs_natCast]
  rfl
set_option maxRecDepth 100000 in
set_option maxHeartbeats 800000 in
theorem rdigits_aux (N : Nat) : ∀ (n : Int) (w : World), n.natAbs ≤ N → -9223372036854775808 ≤ n → n < 9223372036854775808 → Calls Tryz.prog 78 #[.int .i64 n] w fun e w' => e = .returned (.string ⟨(dz n).toArray⟩) ∧ w = w' := by
  induction N with
  | zero => exact fun n w h _ _ => rdigits_one n w (by omega) (by omega)
  | succ N ih =>
    intro n w hN h1 h2
    by_cases hs : 0 ≤ n ∧ n < 10
    · exact rdigits_one n w hs.1 hs.2
    by_cases hs2 : -10 < n ∧ n < 0
    · exact rdigits_minus n w hs2.1 hs2.2
    have e : (n.tdiv 10).natAbs = n.natAbs / 10 := by rw [Int.natAbs_tdiv]; rfl
    have H1 := Lib.hid (fun w => ih (n.tdiv 10) w (by omega) (by omega) (by omega))
    have H2 := Lib.hid (fun w => rdigits_one ((n.natAbs % 10 : Nat) : Int) w (by omega) (by omega))
    have Hs : Hid (⟨(dz (n.tdiv 10)).toArray⟩ ++ ⟨(dz ((n.natAbs % 10 : Nat) : Int)).toArray⟩ = (⟨(dz n).toArray⟩ : ByteArray)) := by
      show _ = _
      refine bs_eq ?_
      rw [bs_append, bs_mk, bs_mk, bs_mk, ← dz_step n (by omega)]
    have hx : (⟨(dz (n.tdiv 10)).toArray⟩ : ByteArray).size ≤ 20 := by rw [ba_size]; exact dz_len _ (by omega) (by omega)
    have hy : (⟨(dz ((n.natAbs % 10 : Nat) : Int)).toArray⟩ : ByteArray).size ≤ 20 := by rw [ba_size]; exact dz_len _ (by omega) (by omega)
    generalize (⟨(dz (n.tdiv 10)).toArray⟩ : ByteArray) = X at H1 Hs hx
    generalize (⟨(dz ((n.natAbs % 10 : Nat) : Int)).toArray⟩ : ByteArray) = Y at H2 Hs hy
    have hadd := fun w' => run_string_add_sum (P := Tryz.prog) (w := w') X Y (by omega)
    by_cases hp : 10 ≤ n
    · have t1 : n.tdiv 10 = n / 10 := Int.tdiv_eq_ediv_of_nonneg (by omega)
      rw [t1] at H1
      have t2 : ((n.natAbs % 10 : Nat) : Int) = n % 10 := by omega
      rw [t2] at H2
      have d1 : decide (-10 < n) = true := by simp; omega
      have d2 : decide (n < 0) = false := by simp; omega
      have d3 : decide (0 ≤ n) = true := by simp; omega
      have d4 : decide (n < 10) = false := by simp; omega
      have d5 : decide (n % 10 < 0) = false := by simp; omega
      clear t1 t2 e ih hs hs2 hN
      go_enter Tryz.func78, Tryz.ntmps78
      go_wp2_with fail
      refine (H1.out _).mono ?_
      rintro e w1 ⟨rfl, rfl⟩
      go_wp2_with fail
      refine (H2.out _).mono ?_
      rintro e w1 ⟨rfl, rfl⟩
      go_wp2_with fail
      go_ret
      exact ⟨by rw [← Hs.out]; rfl, rfl⟩
    · have t2 := tmod_neg n (by omega)
      have d1 : decide (-10 < n) = false := by simp; omega
      have d2 : decide (0 ≤ n) = false := by simp; omega
      by_cases hz : n.natAbs % 10 = 0
      · have t3 : n.tmod 10 = 0 := by rw [t2, hz]; rfl
        rw [hz] at H2
        clear t2 e ih hs hs2 hN hp hz
        go_enter Tryz.func78, Tryz.ntmps78
        go_wp2_with fail
        refine (H1.out _).mono ?_
        rintro e w1 ⟨rfl, rfl⟩
        go_wp2_with fail
        refine (H2.out _).mono ?_
        rintro e w1 ⟨rfl, rfl⟩
        go_wp2_with fail
        go_ret
        exact ⟨by rw [← Hs.out]; rfl, rfl⟩
      · have d3 : decide (n.tmod 10 < 0) = true := by simp; omega
        have t3 : wrap64 (-n.tmod 10) = ((n.natAbs % 10 : Nat) : Int) := by rw [t2]; go_arith
        rw [← t3] at H2
        clear t2 e ih hs hs2 hN hp hz t3
        go_enter Tryz.func78, Tryz.ntmps78
        go_wp2_with fail
        refine (H1.out _).mono ?_
        rintro e w1 ⟨rfl, rfl⟩
        go_wp2_with fail
        refine (H2.out _).mono ?_
        rintro e w1 ⟨rfl, rfl⟩
        go_wp2_with fail
        go_ret
        exact ⟨by rw [← Hs.out]; rfl, rfl⟩
theorem rdigits_any (n : Int) (w : World) (h1 : -9223372036854775808 ≤ n) (h2 : n < 9223372036854775808) : Calls Tryz.prog 78 #[.int .i64 n] w fun e w' => e = .returned (.string ⟨(dz n).toArray⟩) ∧ w = w' :=
  rdigits_aux n.natAbs n w (Nat.le_refl _) h1 h2
end Go.Proofs.YthmjgaekcghonaaGreatDoor

/-
  Contracts of package typ's Cast and of the document's own.
-/
namespace Go.Proofs.YthmjgaekcghonaaGreatDoor
open Go.RowKit

/-- a value and a type in their boxes, and the result's block -/
def BxC (w w1 : World) (a b c x y p q r : Value) : Prop := Blk3 w1 w.heap.size a b c ∧ Blk2 w1 (w.heap.size + 1) x y ∧ Blk3 w1 (w.heap.size + 2) p q r ∧ w.heap.size + 2 < w1.heap.size ∧ Below w.heap.size w w1
theorem BxC.new (w : World) (a b c x y p q r : Value) (t t2 t3 : TypeId) : BxC w (((w.alloc (.cells #[a, b, c] t)).alloc (.cells #[x, y] t2)).alloc (.cells #[p, q, r] t3)) a b c x y p q r := by
  have b1 : Below w.heap.size w (w.alloc (.cells #[a, b, c] t)) := (Below.refl _ _).alloc (Nat.le_refl _) _
  have b2 : Below w.heap.size w ((w.alloc (.cells #[a, b, c] t)).alloc (.cells #[x, y] t2)) := b1.alloc (by simp) _
  have b3 : Below w.heap.size w (((w.alloc (.cells #[a, b, c] t)).alloc (.cells #[x, y] t2)).alloc (.cells #[p, q, r] t3)) := b2.alloc (by simp; omega) _
  refine ⟨((Blk3.new w a b c t).below ((Below.refl _ _).alloc (Nat.le_refl _) _) (by simp)).below ((Below.refl _ _).alloc (Nat.le_refl _) _) (by simp; omega), (Blk2.new _ _ x y t2 (by simp)).alloc (by simp) _, Blk3.new' _ _ p q r t3 (by simp), by simp, b3⟩
theorem BxC.step {w w1 w2 : World} {a b c x y p q r : Value} (h : BxC w w1 a b c x y p q r) (hb : Below w1.heap.size w1 w2) : BxC w w2 a b c x y p q r := by
  obtain ⟨h1, h2, h3, h4, h5⟩ := h
  have := hb.size
  exact ⟨h1.below hb (by omega), h2.below hb (by omega), h3.below hb h4, by omega, h5.trans (hb.mono (by omega))⟩

/-- the string that a value becomes -/
def conS (k n : Int) (s : ByteArray) : ByteArray := bif numK k then ⟨(dz n).toArray⟩ else s
set_option maxHeartbeats 800000 in
theorem content_any (k n : Int) (s : ByteArray) (w : World) (h1 : -9223372036854775808 ≤ n) (h2 : n < 9223372036854775808) : Calls Tryz.prog 117 #[VV k n s] w fun e w' => e = .returned (.string (conS k n s)) ∧ Below w.heap.size w w' := by
  have HN := Lib.hid (fun w => isnum_any k w)
  have HD := Lib.hid (fun w => digits_any n w h1 h2)
  clear h1 h2
  have Hv : Hid (conS k n s = bif numK k then ⟨(dz n).toArray⟩ else s) := rfl
  generalize numK k = b at HN Hv
  generalize (⟨(dz n).toArray⟩ : ByteArray) = D at HD Hv
  cases b
  · go_enter Tryz.func117, Tryz.ntmps117
    go_wp2_with fail
    refine (HN.out _).mono ?_
    rintro e w1 ⟨rfl, rfl⟩
    go_wp2_with fail
    go_ret
    exact ⟨by rw [Hv.out]; rfl, by go_grown⟩
  · go_enter Tryz.func117, Tryz.ntmps117
    go_wp2_with fail
    refine (HN.out _).mono ?_
    rintro e w1 ⟨rfl, rfl⟩
    go_wp2_with fail
    refine (HD.out _).mono ?_
    rintro e w1 ⟨rfl, hb⟩
    have hb' := below_new hb
    go_wp2_with fail
    go_ret
    exact ⟨by rw [Hv.out]; rfl, hb'⟩

/-- what Cast returns -/
def cR (v : Value) (e : Int) : Value := .tuple #[v, .int .i64 e]
def castR (k n : Int) (s : ByteArray) (tk tm : Int) : Value :=
  bif rightV k n (bs s) then bif rightT tk tm then bif k == 0 then cR (VV 0 0 ⟨#[]⟩) 0 else bif decide (k ≤ tk) then bif numK tk then cR (VV tk n ⟨#[]⟩) 0 else
    bif decide (tm < ((conS k n s).size : Int)) then cR (VV 0 0 ⟨#[]⟩) 10 else cR (VV tk 0 (conS k n s)) 0
  else cR (VV 0 0 ⟨#[]⟩) 9 else cR (VV 0 0 ⟨#[]⟩) 2 else cR (VV 0 0 ⟨#[]⟩) 2
def rcastR (k n : Int) (s : ByteArray) (tk tm : Int) : Value :=
  bif rightV k n (bs s) then bif rightT tk tm then bif k == 0 then cR (VV k n s) 0 else bif decide (tk < k) then cR (VV 0 0 ⟨#[]⟩) 9 else bif decide (tk < 3) then cR (VV tk n ⟨#[]⟩) 0 else
    bif decide (k < 3) then bif decide (tm < ((⟨(dz n).toArray⟩ : ByteArray).size : Int)) then cR (VV 0 0 ⟨#[]⟩) 10 else cR (VV tk 0 ⟨(dz n).toArray⟩) 0
    else bif decide (tm < (s.size : Int)) then cR (VV 0 0 ⟨#[]⟩) 10 else cR (VV tk 0 s) 0
  else cR (VV 0 0 ⟨#[]⟩) 2 else cR (VV 0 0 ⟨#[]⟩) 2
theorem rightV_kind {k n : Int} {l : List UInt8} (h : rightV k n l = true) : k = 0 ∨ k = 1 ∨ k = 2 ∨ k = 3 ∨ k = 4 := by
  rcases rightV_cases k n l with h' | h' | h' | h' | h' | h'
  · exact .inl h'.1
  · exact .inr (.inl h'.1)
  · exact .inr (.inr (.inl h'.1))
  · exact .inr (.inr (.inr (.inl h'.1)))
  · exact .inr (.inr (.inr (.inr h'.1)))
  · rw [h'.2.2.2.2.2] at h; cases h
theorem rightV_null {n : Int} {s : ByteArray} (h : rightV 0 n (bs s) = true) : n = 0 ∧ s = ⟨#[]⟩ := by
  unfold rightV at h
  simp at h
  refine ⟨h.1, is_empty s ?_⟩
  rw [← bs_length, h.2]; rfl
theorem rcastR_eq (k n : Int) (s : ByteArray) (tk tm : Int) : rcastR k n s tk tm = castR k n s tk tm := by
  unfold rcastR castR
  cases ha : rightV k n (bs s)
  · rfl
  cases hb : rightT tk tm
  · rfl
  have hk := rightV_kind ha
  have hb' := (rightT_iff tk tm).1 hb
  simp only [cond_true]
  by_cases h0 : k = 0
  · subst h0
    obtain ⟨rfl, rfl⟩ := rightV_null ha
    rfl
  · have e0 : (k == 0) = false := by simpa using h0
    rw [e0]
    simp only [cond_false]
    by_cases h1 : tk < k
    · have d1 : decide (tk < k) = true := by simpa using h1
      have d2 : decide (k ≤ tk) = false := by simp; omega
      rw [d1, d2]; rfl
    · have d1 : decide (tk < k) = false := by simp; omega
      have d2 : decide (k ≤ tk) = true := by simp; omega
      rw [d1, d2]
      simp only [cond_false, cond_true]
      have d3 : decide (tk < 3) = numK tk := by
        apply bool_eq
        rw [numK_iff, decide_eq_true_eq]
        omega
      rw [d3]
      cases numK tk
      · simp only [cond_false]
        unfold conS
        have d4 : decide (k < 3) = numK k := by
          apply bool_eq
          rw [numK_iff, decide_eq_true_eq]
          omega
        rw [d4]
        cases numK k <;> rfl
      · rfl
set_option maxRecDepth 100000 in
set_option maxHeartbeats 3200000 in
theorem tcast_any (k n : Int) (s : ByteArray) (tk tm : Int) (w : World) (ht : UTab w) (h1 : -9223372036854775808 ≤ n) (h2 : n < 9223372036854775808) :
    Calls Tryz.prog 97 #[VV k n s, TT tk tm] w fun e w' => e = .returned (castR k n s tk tm) ∧ Below w.heap.size w w' := by
  have HT := Lib.hid ht; clear ht
  have HV := Lib.hid (fun w ht => vright_any k n s w ht)
  have HR := Lib.hid (fun w => tright_any tk tm w)
  have HC := Lib.hid (fun w => reach_any tk k w)
  have HN := Lib.hid (fun w => isnum_any tk w)
  have HD := Lib.hid (fun w => content_any k n s w h1 h2)
  clear h1 h2
  have Hv : Hid (castR k n s tk tm = bif rightV k n (bs s) then bif rightT tk tm then bif k == 0 then cR (VV 0 0 ⟨#[]⟩) 0 else bif decide (k ≤ tk) then bif numK tk then cR (VV tk n ⟨#[]⟩) 0 else
    bif decide (tm < ((conS k n s).size : Int)) then cR (VV 0 0 ⟨#[]⟩) 10 else cR (VV tk 0 (conS k n s)) 0
    else cR (VV 0 0 ⟨#[]⟩) 9 else cR (VV 0 0 ⟨#[]⟩) 2 else cR (VV 0 0 ⟨#[]⟩) 2) := rfl
  generalize rightV k n (bs s) = a at HV Hv
  generalize rightT tk tm = b at HR Hv
  generalize hz : (k == 0) = z at Hv
  generalize decide (k ≤ tk) = c at HC Hv
  generalize numK tk = d at HN Hv
  generalize conS k n s = D at HD Hv
  generalize hg : decide (tm < (D.size : Int)) = g at Hv
  cases a
  · go_enter Tryz.func97, Tryz.ntmps97
    go_wp2_with fail
    refine (HV.out _ (((HT.out.alloc _).alloc _).alloc _)).mono ?_
    rintro e w1 ⟨rfl, hb1⟩
    have HB := Lib.hid ((BxC.new w _ _ _ _ _ _ _ _ _ _ _).step hb1)
    clear hb1
    obtain ⟨⟨c0, c1, c2, _⟩, ⟨d0, d1, _⟩, ⟨e0, e1, e2, f0, f1, f2⟩, _, hb'⟩ := HB.out
    go_wp2_with fail
    try simp only [Exit.inBlock, Exit.then]
    refine bodyPost_ret (results_v2 rfl _ _ rfl HB.out.2.2.1.set3) rfl ?_
    exact ⟨by rw [Hv.out]; rfl, by go_grown⟩
  cases b
  · go_enter Tryz.func97, Tryz.ntmps97
    go_wp2_with fail
    refine (HV.out _ (((HT.out.alloc _).alloc _).alloc _)).mono ?_
    rintro e w1 ⟨rfl, hb1⟩
    have HB := Lib.hid ((BxC.new w _ _ _ _ _ _ _ _ _ _ _).step hb1)
    clear hb1
    obtain ⟨⟨c0, c1, c2, _⟩, ⟨d0, d1, _⟩, _⟩ := HB.out
    go_wp2_with fail
    refine (HR.out _).mono ?_
    rintro e w2 ⟨rfl, hb2⟩
    have HB2 := Lib.hid (HB.out.step hb2)
    clear hb2 c0 c1 c2 d0 d1
    obtain ⟨⟨c0, c1, c2, _⟩, ⟨d0, d1, _⟩, ⟨e0, e1, e2, f0, f1, f2⟩, _, hb'⟩ := HB2.out
    go_wp2_with fail
    try simp only [Exit.inBlock, Exit.then]
    refine bodyPost_ret (results_v2 rfl _ _ rfl HB2.out.2.2.1.set3) rfl ?_
    exact ⟨by rw [Hv.out]; rfl, by go_grown⟩
  cases z
  · cases c
    · go_enter Tryz.func97, Tryz.ntmps97
      go_wp2_with fail
      refine (HV.out _ (((HT.out.alloc _).alloc _).alloc _)).mono ?_
      rintro e w1 ⟨rfl, hb1⟩
      have HB := Lib.hid ((BxC.new w _ _ _ _ _ _ _ _ _ _ _).step hb1)
      clear hb1
      obtain ⟨⟨c0, c1, c2, _⟩, ⟨d0, d1, _⟩, _⟩ := HB.out
      go_wp2_with fail
      refine (HR.out _).mono ?_
      rintro e w2 ⟨rfl, hb2⟩
      have HB2 := Lib.hid (HB.out.step hb2)
      clear hb2 c0 c1 c2 d0 d1
      obtain ⟨⟨c0, c1, c2, _⟩, ⟨d0, d1, _⟩, _⟩ := HB2.out
      go_wp2_with fail
      refine (HC.out _).mono ?_
      rintro e w3 ⟨rfl, rfl⟩
      clear c0 c1 c2 d0 d1
      obtain ⟨⟨c0, c1, c2, _⟩, ⟨d0, d1, _⟩, ⟨e0, e1, e2, f0, f1, f2⟩, _, hb'⟩ := HB2.out
      go_wp2_with fail
      try simp only [Exit.inBlock, Exit.then]
      refine bodyPost_ret (results_v2 rfl _ _ rfl HB2.out.2.2.1.set3) rfl ?_
      exact ⟨by rw [Hv.out]; rfl, by go_grown⟩
    · cases d
      · cases g
        · go_enter Tryz.func97, Tryz.ntmps97
          go_wp2_with fail
          refine (HV.out _ (((HT.out.alloc _).alloc _).alloc _)).mono ?_
          rintro e w1 ⟨rfl, hb1⟩
          have HB := Lib.hid ((BxC.new w _ _ _ _ _ _ _ _ _ _ _).step hb1)
          clear hb1
          obtain ⟨⟨c0, c1, c2, _⟩, ⟨d0, d1, _⟩, _⟩ := HB.out
          go_wp2_with fail
          refine (HR.out _).mono ?_
          rintro e w2 ⟨rfl, hb2⟩
          have HB2 := Lib.hid (HB.out.step hb2)
          clear hb2 c0 c1 c2 d0 d1
          obtain ⟨⟨c0, c1, c2, _⟩, ⟨d0, d1, _⟩, _⟩ := HB2.out
          go_wp2_with fail
          refine (HC.out _).mono ?_
          rintro e w3 ⟨rfl, rfl⟩
          clear c0 c1 c2 d0 d1
          obtain ⟨⟨c0, c1, c2, _⟩, ⟨d0, d1, _⟩, _⟩ := HB2.out
          go_wp2_with fail
          refine (HN.out _).mono ?_
          rintro e w3 ⟨rfl, rfl⟩
          clear c0 c1 c2 d0 d1
          obtain ⟨⟨c0, c1, c2, _⟩, ⟨d0, d1, _⟩, _⟩ := HB2.out
          go_wp2_with fail
          refine (HD.out _).mono ?_
          rintro e w4 ⟨rfl, hb3⟩
          have HB3 := Lib.hid (HB2.out.step hb3)
          clear hb3 c0 c1 c2 d0 d1
          obtain ⟨⟨c0, c1, c2, _⟩, ⟨d0, d1, _⟩, ⟨e0, e1, e2, f0, f1, f2⟩, _, hb'⟩ := HB3.out
          go_wp2_with fail
          try simp only [Exit.inBlock, Exit.then]
          refine bodyPost_ret (results_v2 rfl _ _ rfl HB3.out.2.2.1.set3) rfl ?_
          exact ⟨by rw [Hv.out]; rfl, by go_grown⟩
        · go_enter Tryz.func97, Tryz.ntmps97
          go_wp2_with fail
          refine (HV.out _ (((HT.out.alloc _).alloc _).alloc _)).mono ?_
          rintro e w1 ⟨rfl, hb1⟩
          have HB := Lib.hid ((BxC.new w _ _ _ _ _ _ _ _ _ _ _).step hb1)
          clear hb1
          obtain ⟨⟨c0, c1, c2, _⟩, ⟨d0, d1, _⟩, _⟩ := HB.out
          go_wp2_with fail
          refine (HR.out _).mono ?_
          rintro e w2 ⟨rfl, hb2⟩
          have HB2 := Lib.hid (HB.out.step hb2)
          clear hb2 c0 c1 c2 d0 d1
          obtain ⟨⟨c0, c1, c2, _⟩, ⟨d0, d1, _⟩, _⟩ := HB2.out
          go_wp2_with fail
          refine (HC.out _).mono ?_
          rintro e w3 ⟨rfl, rfl⟩
          clear c0 c1 c2 d0 d1
          obtain ⟨⟨c0, c1, c2, _⟩, ⟨d0, d1, _⟩, _⟩ := HB2.out
          go_wp2_with fail
          refine (HN.out _).mono ?_
          rintro e w3 ⟨rfl, rfl⟩
          clear c0 c1 c2 d0 d1
          obtain ⟨⟨c0, c1, c2, _⟩, ⟨d0, d1, _⟩, _⟩ := HB2.out
          go_wp2_with fail
          refine (HD.out _).mono ?_
          rintro e w4 ⟨rfl, hb3⟩
          have HB3 := Lib.hid (HB2.out.step hb3)
          clear hb3 c0 c1 c2 d0 d1
          obtain ⟨⟨c0, c1, c2, _⟩, ⟨d0, d1, _⟩, ⟨e0, e1, e2, f0, f1, f2⟩, _, hb'⟩ := HB3.out
          go_wp2_with fail
          try simp only [Exit.inBlock, Exit.then]
          refine bodyPost_ret (results_v2 rfl _ _ rfl HB3.out.2.2.1.set3) rfl ?_
          exact ⟨by rw [Hv.out]; rfl, by go_grown⟩
      · go_enter Tryz.func97, Tryz.ntmps97
        go_wp2_with fail
        refine (HV.out _ (((HT.out.alloc _).alloc _).alloc _)).mono ?_
        rintro e w1 ⟨rfl, hb1⟩
        have HB := Lib.hid ((BxC.new w _ _ _ _ _ _ _ _ _ _ _).step hb1)
        clear hb1
        obtain ⟨⟨c0, c1, c2, _⟩, ⟨d0, d1, _⟩, _⟩ := HB.out
        go_wp2_with fail
        refine (HR.out _).mono ?_
        rintro e w2 ⟨rfl, hb2⟩
        have HB2 := Lib.hid (HB.out.step hb2)
        clear hb2 c0 c1 c2 d0 d1
        obtain ⟨⟨c0, c1, c2, _⟩, ⟨d0, d1, _⟩, _⟩ := HB2.out
        go_wp2_with fail
        refine (HC.out _).mono ?_
        rintro e w3 ⟨rfl, rfl⟩
        clear c0 c1 c2 d0 d1
        obtain ⟨⟨c0, c1, c2, _⟩, ⟨d0, d1, _⟩, _⟩ := HB2.out
        go_wp2_with fail
        refine (HN.out _).mono ?_
        rintro e w3 ⟨rfl, rfl⟩
        clear c0 c1 c2 d0 d1
        obtain ⟨⟨c0, c1, c2, _⟩, ⟨d0, d1, _⟩, ⟨e0, e1, e2, f0, f1, f2⟩, _, hb'⟩ := HB2.out
        go_wp2_with fail
        try simp only [Exit.inBlock, Exit.then]
        refine bodyPost_ret (results_v2 rfl _ _ rfl HB2.out.2.2.1.set3) rfl ?_
        exact ⟨by rw [Hv.out]; rfl, by go_grown⟩
  · go_enter Tryz.func97, Tryz.ntmps97
    go_wp2_with fail
    refine (HV.out _ (((HT.out.alloc _).alloc _).alloc _)).mono ?_
    rintro e w1 ⟨rfl, hb1⟩
    have HB := Lib.hid ((BxC.new w _ _ _ _ _ _ _ _ _ _ _).step hb1)
    clear hb1
    obtain ⟨⟨c0, c1, c2, _⟩, ⟨d0, d1, _⟩, _⟩ := HB.out
    go_wp2_with fail
    refine (HR.out _).mono ?_
    rintro e w2 ⟨rfl, hb2⟩
    have HB2 := Lib.hid (HB.out.step hb2)
    clear hb2 c0 c1 c2 d0 d1
    obtain ⟨⟨c0, c1, c2, _⟩, ⟨d0, d1, _⟩, ⟨e0, e1, e2, f0, f1, f2⟩, _, hb'⟩ := HB2.out
    go_wp2_with fail
    try simp only [Exit.inBlock, Exit.then]
    refine bodyPost_ret (results_v2 rfl _ _ rfl HB2.out.2.2.1.set3) rfl ?_
    exact ⟨by rw [Hv.out]; rfl, by go_grown⟩
end Go.Proofs.YthmjgaekcghonaaGreatDoor

/-
  The mathematics of widening: what fits a type is cast to each that is as wide.
-/
namespace Go.Proofs.YthmjgaekcghonaaGreatDoor

theorem enc_asc (c : UInt8) (h : c.toNat < 128) : enc c.toNat = [c] := by
  unfold enc
  simp [h, by8]
theorem asc_text : ∀ (l : List UInt8), (∀ c ∈ l, c.toNat < 128) → text (l.map UInt8.toNat) = l
  | [], _ => rfl
  | a :: r, h => by
    have := asc_text r (fun c hc => h c (by simp [hc]))
    unfold text at this ⊢
    rw [List.map_cons, List.flatMap_cons, enc_asc a (h a (by simp)), this]; rfl
theorem asc_sg (l : List UInt8) (h : ∀ c ∈ l, c.toNat < 128) : (sg l).isSome = true := by
  have := sg_text (l.map UInt8.toNat) (fun n hn => by
    obtain ⟨c, hc, rfl⟩ := List.mem_map.1 hn
    have := h c hc
    rw [isP_iff]; omega) []
  rw [List.append_nil, asc_text l h, sg_nil] at this
  rw [this]; rfl
theorem dz_asc (z : Int) : ∀ c ∈ dz z, c.toNat < 128 := by
  have hd : ∀ c ∈ dn z.natAbs, c.toNat < 128 := fun c hc => by
    have := (isD_iff c).1 (dn_all _ c hc)
    omega
  unfold dz
  split
  · intro c hc
    rcases List.mem_cons.1 hc with rfl | hc
    · decide
    · exact hd c hc
  · exact hd
theorem dz_len32 (z : Int) (h : fitsB z 32 = true) : (dz z).length ≤ 11 := by
  rw [fitsB_eq z 32 (by omega)] at h
  simp at h
  have h3 := dn_len z.natAbs 10 (by omega) (by omega)
  unfold dz; split <;> simp <;> omega

def cN (bk n : Int) : Int := bif numK bk then n else 0
def cS (bk k n : Int) (s : ByteArray) : ByteArray := bif numK bk then ⟨#[]⟩ else conS k n s
theorem fit_iff (k m k' n : Int) (s : ByteArray) : fitT k m k' n s = true ↔ rightT k m = true ∧ rightV k' n (bs s) = true ∧ k' = k ∧ (s.size : Int) ≤ m := by
  unfold fitT
  simp only [Bool.and_eq_true, decide_eq_true_eq, beq_iff_eq, and_assoc]
theorem numK_yes {k : Int} (h : k = 1 ∨ k = 2) : numK k = true := (numK_iff k).2 h
theorem numK_no {k : Int} (h : k = 3 ∨ k = 4) : numK k = false := by rcases h with rfl | rfl <;> rfl
theorem conS_yes {k n : Int} {s : ByteArray} (h : k = 1 ∨ k = 2) : conS k n s = ⟨(dz n).toArray⟩ := by unfold conS; rw [numK_yes h]; rfl
theorem conS_no {k n : Int} {s : ByteArray} (h : k = 3 ∨ k = 4) : conS k n s = s := by unfold conS; rw [numK_no h]; rfl
theorem right1 {n : Int} {l : List UInt8} (h : rightV 1 n l = true) : fitsB n 32 = true ∧ l = [] := by
  unfold rightV at h
  simpa using h
theorem right34 {k n : Int} {l : List UInt8} (hk : k = 3 ∨ k = 4) (h : rightV k n l = true) : n = 0 ∧ l.length ≤ 120 ∧ (k = 3 → (sg l).isSome = true) := by
  unfold rightV at h
  rcases hk with rfl | rfl
  · simp at h
    exact ⟨h.1.1, h.1.2, fun _ => h.2⟩
  · simp at h
    exact ⟨h.1, h.2, fun e => absurd e (by decide)⟩
theorem con_len {k m n : Int} {s : ByteArray} (hf : fitT k m k n s = true) (h1 : -9223372036854775808 ≤ n) (h2 : n < 9223372036854775808) : ((conS k n s).size : Int) ≤ roomT k m := by
  rw [fit_iff] at hf
  obtain ⟨a, b, _, d⟩ := hf
  have r := roomT_spec k m
  rw [rightT_iff] at a
  have hk : k = 1 ∨ k = 2 ∨ (k = 3 ∨ k = 4) := by omega
  rcases hk with rfl | rfl | hk
  · rw [conS_yes (.inl rfl), ba_size, r.1 rfl]
    have := dz_len32 n (right1 b).1
    omega
  · rw [conS_yes (.inr rfl), ba_size, r.2.1 rfl]
    have := dz_len n h1 h2
    omega
  · rw [conS_no hk, r.2.2 (by omega) (by omega)]
    exact d
theorem widen {ak am bk bm k n : Int} {s : ByteArray} (hw : wideT bk bm ak am = true) (hf : fitT ak am k n s = true) (h1 : -9223372036854775808 ≤ n) (h2 : n < 9223372036854775808) :
    castR k n s bk bm = cR (VV bk (cN bk n) (cS bk k n s)) 0 ∧ fitT bk bm bk (cN bk n) (cS bk k n s) = true := by
  have hf' := hf
  rw [fit_iff] at hf'
  obtain ⟨a, b, rfl, d⟩ := hf'
  have hl := con_len hf h1 h2
  rw [wideT_iff] at hw
  obtain ⟨e, _, f, g⟩ := hw
  have e' := (rightT_iff bk bm).1 e
  rw [rightT_iff] at a
  have hz : (k == 0) = false := by
    rw [beq_eq_false_iff_ne]
    omega
  have hle : decide (k ≤ bk) = true := by simpa using f
  constructor
  · unfold castR cN cS
    rw [b, e, hz, hle]
    by_cases hn : bk = 1 ∨ bk = 2
    · rw [numK_yes hn]; rfl
    · have hn' : bk = 3 ∨ bk = 4 := by omega
      have hd : decide (bm < ((conS k n s).size : Int)) = false := by simp; omega
      rw [numK_no hn', hd]; rfl
  · rw [fit_iff]
    unfold cN cS
    by_cases hn : bk = 1 ∨ bk = 2
    · rw [numK_yes hn]
      refine ⟨e, ?_, rfl, by show (0 : Int) ≤ bm; omega⟩
      rcases hn with rfl | rfl
      · obtain rfl : k = 1 := by omega
        have := (right1 b).1
        show rightV 1 n [] = true
        unfold rightV
        simp [this]
      · rfl
    · have hn' : bk = 3 ∨ bk = 4 := by omega
      rw [numK_no hn']
      refine ⟨e, ?_, rfl, by show ((conS k n s).size : Int) ≤ bm; omega⟩
      show rightV bk 0 (bs (conS k n s)) = true
      have hlen : (bs (conS k n s)).length ≤ 120 := by rw [bs_length]; omega
      rcases hn' with rfl | rfl
      · have hs : (sg (bs (conS k n s))).isSome = true := by
          by_cases hk : k = 1 ∨ k = 2
          · rw [conS_yes hk, bs_mk (dz n)]
            exact asc_sg _ (dz_asc n)
          · obtain rfl : k = 3 := by omega
            rw [conS_no (.inl rfl)]
            exact (right34 (.inl rfl) b).2.2 rfl
        unfold rightV
        simp [hlen, hs]
      · unfold rightV
        simp [hlen]
theorem empty_of {s : ByteArray} (h : bs s = []) : s = ⟨#[]⟩ := is_empty s (by rw [← bs_length, h]; rfl)
/-- unlike values stay unlike -/
theorem widen_same {ak am bk bm k n k' n' : Int} {s s' : ByteArray} (hw : wideT bk bm ak am = true) (hf : fitT ak am k n s = true) (hf' : fitT ak am k' n' s' = true) :
    (n = n' ∧ s = s') ∨ (n ≠ n' ∧ cN bk n ≠ cN bk n') ∨ (n ≠ n' ∧ cN bk n = cN bk n' ∧ cS bk k n s ≠ cS bk k' n' s') ∨ (n = n' ∧ s ≠ s' ∧ cN bk n = cN bk n' ∧ cS bk k n s ≠ cS bk k' n' s') := by
  rw [fit_iff] at hf hf'
  obtain ⟨a, b, rfl, d⟩ := hf
  obtain ⟨_, b', rfl, d'⟩ := hf'
  rw [wideT_iff] at hw
  obtain ⟨e, _, f, g⟩ := hw
  rw [rightT_iff] at a e
  unfold cN cS
  by_cases hk : k' = 1 ∨ k' = 2
  · have q1 := empty_of (rightV_num b hk)
    have q2 := empty_of (rightV_num b' hk)
    subst q1 q2
    by_cases hn : n = n'
    · exact .inl ⟨hn, rfl⟩
    · by_cases hb : bk = 1 ∨ bk = 2
      · rw [numK_yes hb]
        exact .inr (.inl ⟨hn, hn⟩)
      · rw [numK_no (by omega), conS_yes hk, conS_yes hk]
        refine .inr (.inr (.inl ⟨hn, rfl, fun h => hn ?_⟩))
        have : bs ⟨(dz n).toArray⟩ = bs ⟨(dz n').toArray⟩ := congrArg bs h
        rw [bs_mk (dz n), bs_mk (dz n')] at this
        exact dz_inj this
  · have hk' : k' = 3 ∨ k' = 4 := by omega
    have z1 := (right34 hk' b).1
    have z2 := (right34 hk' b').1
    subst z1 z2
    by_cases hs : s = s'
    · exact .inl ⟨rfl, hs⟩
    · rw [numK_no (show bk = 3 ∨ bk = 4 by omega), conS_no hk', conS_no hk']
      exact .inr (.inr (.inr ⟨rfl, hs, rfl, hs⟩))
/-- cast on is cast at once -/
theorem widen_on {bk ck k n : Int} {s : ByteArray} (hk : 1 ≤ k) (h1 : k ≤ bk) (h2 : bk ≤ ck) (h3 : ck ≤ 4) : cN ck (cN bk n) = cN ck n ∧ cS ck bk (cN bk n) (cS bk k n s) = cS ck k n s := by
  unfold cN cS
  by_cases hc : ck = 1 ∨ ck = 2
  · rw [numK_yes hc, numK_yes (show bk = 1 ∨ bk = 2 by omega)]
    exact ⟨rfl, rfl⟩
  · rw [numK_no (show ck = 3 ∨ ck = 4 by omega)]
    refine ⟨rfl, ?_⟩
    show conS bk _ _ = conS k n s
    by_cases hb : bk = 1 ∨ bk = 2
    · rw [numK_yes hb, conS_yes hb, conS_yes (show k = 1 ∨ k = 2 by omega)]; rfl
    · rw [numK_no (show bk = 3 ∨ bk = 4 by omega), conS_no (show bk = 3 ∨ bk = 4 by omega)]; rfl
end Go.Proofs.YthmjgaekcghonaaGreatDoor

/-
  Changes of a catalog in plain words (layer 9): which are plain, what is wrong with one, the catalog behind it, and that it is right. No memory stands here: a table without the place of its columns (Tp).
-/
namespace Go.Proofs.YthmjgaekcghonaaGreatDoor

/-! ### Lists whose numbers increase and whose names are unlike -/
abbrev Apart {α : Type} (idf : α → Int) (nmf : α → ByteArray) (x y : α) : Prop := idf x < idf y ∧ nmf x ≠ nmf y
theorem dist_pair {α : Type} {idf : α → Int} {nmf : α → ByteArray} {l : List α} : Dist idf nmf l ↔ l.Pairwise (Apart idf nmf) := by
  rw [List.pairwise_iff_getElem]
  constructor
  · intro h i j hi hj hij
    have hx : l[i]? = some l[i] := by simp [hi]
    have hy : l[j]? = some l[j] := by simp [hj]
    refine ⟨?_, (h j hj l[j] hy).2 i l[i] hij hx⟩
    exact dist_lt h (j - i - 1) i l[i] l[j] hx (by rw [show i + (j - i - 1) + 1 = j by omega]; exact hy)
  · intro h i hi x hx
    obtain ⟨h1, rfl⟩ := List.getElem?_eq_some_iff.1 hx
    refine ⟨fun y h0 hy => ?_, fun j y hj hy => ?_⟩
    · obtain ⟨h2, rfl⟩ := List.getElem?_eq_some_iff.1 hy
      exact (h (i - 1) i h2 h1 (by omega)).1
    · obtain ⟨h2, rfl⟩ := List.getElem?_eq_some_iff.1 hy
      exact (h j i h2 h1 hj).2

/-- a table without the place of its columns; a change -/
structure Tp where
  id : Int
  nm : ByteArray
  key : Int
  nx : Int
  cols : List Cb
structure Dp where
  op : Int
  tb : ByteArray
  co : ByteArray
  to : ByteArray
  key : ByteArray
  tk : Int
  tm : Int
  nl : Bool
  dk : Int
  dn : Int
  ds : ByteArray
  cols : List Cb
def Tb.p (t : Tb) : Tp := ⟨t.id, t.nm, t.key, t.nx, t.cols⟩
def Tp.b (t : Tp) : Tb := ⟨t.id, t.nm, t.key, t.nx, none, 0, t.cols⟩
theorem right_p (t : Tb) : rightTab t = rightTab t.p.b := rfl
def RightT (t : Tp) : Prop := 0 ≤ t.id ∧ rightN (bs t.nm) = true ∧ t.nx ≤ 200 ∧ 1 ≤ t.cols.length ∧ t.cols.length ≤ 10 ∧ (∀ c ∈ t.cols, rightC c = true ∧ c.id < t.nx) ∧ t.cols.Pairwise (Apart Cb.id Cb.nm) ∧ ∃ c ∈ t.cols, c.id = t.key ∧ c.nl = false
theorem rightTp_iff (t : Tp) : rightTab t.b = true ↔ RightT t := by
  unfold RightT
  rw [← dist_pair]
  show (decide (0 ≤ t.id) && (rightN (bs t.nm) && (decide (t.nx ≤ 200) && (decide (1 ≤ (t.cols.length : Int)) && (decide ((t.cols.length : Int) ≤ 10) && (rightCols t.b && tf (keyOk t.b))))))) = true ↔ _
  have hc : rightCols t.b = ((t.cols.all fun c => rightC c && decide (c.id < t.nx)) && tf (Dist Cb.id Cb.nm t.cols)) := rfl
  rw [hc]
  simp only [Bool.and_eq_true, decide_eq_true_eq, tf_iff, List.all_eq_true]
  constructor
  · rintro ⟨h1, h2, h3, h4, h5, ⟨h6, h7⟩, h8⟩
    refine ⟨h1, h2, h3, by omega, by omega, h6, h7, ?_⟩
    have := (tf_iff.2 h8).symm.trans (key_any (t := t.b) h7)
    obtain ⟨c, hc, h⟩ := List.any_eq_true.1 this.symm
    simp only [Bool.and_eq_true, beq_iff_eq, Bool.not_eq_true'] at h
    exact ⟨c, hc, h⟩
  · rintro ⟨h1, h2, h3, h4, h5, h6, h7, c, hc, h⟩
    refine ⟨h1, h2, h3, by omega, by omega, ⟨h6, h7⟩, ?_⟩
    refine tf_iff.1 ((key_any (t := t.b) h7).trans (List.any_eq_true.2 ⟨c, hc, ?_⟩))
    simp only [Bool.and_eq_true, beq_iff_eq, Bool.not_eq_true']
    exact h
def RightL (l : List Tp) : Prop := l.length ≤ 6 ∧ (∀ t ∈ l, RightT t) ∧ l.Pairwise (Apart Tp.id Tp.nm)
theorem rightL_iff (l : List Tb) : rightCat l = true ↔ RightL (l.map Tb.p) := by
  unfold rightCat RightL
  simp only [Bool.and_eq_true, decide_eq_true_eq, tf_iff, List.all_eq_true, List.length_map, List.mem_map, List.pairwise_map, dist_pair]
  constructor
  · rintro ⟨h1, h2, h3⟩
    exact ⟨by omega, fun t ⟨x, hx, e⟩ => by rw [← e]; exact (rightTp_iff _).1 (h2 x hx), h3⟩
  · rintro ⟨h1, h2, h3⟩
    exact ⟨by omega, fun t ht => (rightTp_iff t.p).2 (h2 _ ⟨t, ht, rfl⟩), h3⟩

/-! ### Changes -/
def emp (s : ByteArray) : Bool := eqS s ByteArray.empty
def zTy (d : Dp) : Bool := (d.tk == 0) && (d.tm == 0)
def zDf (d : Dp) : Bool := nulV d.dk d.dn d.ds
def zCo (d : Dp) : Bool := d.cols.isEmpty
/-- is it well formed? -/
def plainD (d : Dp) : Bool :=
  if d.op = 1 then emp d.co && (emp d.to && (zTy d && (!d.nl && (zDf d && d.cols.all fun c => c.id == 0))))
  else if d.op = 2 then emp d.co && (emp d.to && (emp d.key && (zTy d && (!d.nl && (zDf d && zCo d)))))
  else if d.op = 3 then emp d.co && (emp d.key && (zTy d && (!d.nl && (zDf d && zCo d))))
  else if d.op = 4 then emp d.to && (emp d.key && zCo d)
  else if d.op = 5 then emp d.to && (emp d.key && (zTy d && (!d.nl && (zDf d && zCo d))))
  else if d.op = 6 then emp d.key && (zTy d && (!d.nl && (zDf d && zCo d)))
  else if d.op = 7 then emp d.to && (emp d.key && (!d.nl && (zDf d && zCo d)))
  else if d.op = 8 then emp d.to && (emp d.key && (zTy d && (!d.nl && zCo d)))
  else false
def findT (l : List Tp) (s : ByteArray) : Option Nat := l.findIdx? fun t => eqS t.nm s
def colP (l : List Cb) (s : ByteArray) : Option Nat := l.findIdx? fun c => eqS c.nm s
/-- does a value fit as a Default? -/
def presetD (tk tm dk dn : Int) (ds : ByteArray) : Bool := nulV dk dn ds || fitT tk tm dk dn ds
/-- why the column at a place of a new table can't stand; 0 -/
def ncolE (l : List Cb) (i : Nat) (c : Cb) : Int :=
  if rightN (bs c.nm) = true then (if ((l.take i).findIdx? fun y => eqS y.nm c.nm).isSome = true then 14 else if rightT c.tk c.tm = true then (if presetD c.tk c.tm c.dk c.dn c.ds = true then 0 else 10) else 9) else 8
def ncolsE (l : List Cb) : Nat → List Cb → Int
  | _, [] => 0
  | i, c :: r => if ncolE l i c = 0 then ncolsE l (i + 1) r else ncolE l i c
def createE (l : List Tp) (d : Dp) (id : Int) : Int :=
  if rightN (bs d.tb) = true then
    if (findT l d.tb).isSome = true then 14 else if 6 ≤ l.length then 3 else if (l.findIdx? fun t => t.id == id).isSome = true then 24 else if d.cols.length = 0 then 5 else if 10 < d.cols.length then 3
    else if ncolsE d.cols 0 d.cols = 0 then (match (colP d.cols d.key).bind fun k => d.cols[k]? with
      | none => 15
      | some c => if c.nl = true then 11 else 0)
    else ncolsE d.cols 0 d.cols
  else 8
def addE (t : Tp) (d : Dp) : Int :=
  if 10 ≤ t.cols.length ∨ 200 ≤ t.nx then 3 else if rightN (bs d.co) = true then
    if (colP t.cols d.co).isSome = true then 14 else if rightT d.tk d.tm = true then
      if presetD d.tk d.tm d.dk d.dn d.ds = true then (if d.nl = false ∧ nulV d.dk d.dn d.ds = true then 11 else 0) else 10
    else 9
  else 8
/-- the column of a name -/
def colV (l : List Cb) (s : ByteArray) : Option Cb := (colP l s).bind fun k => l[k]?
def wrongE (l : List Tp) (t : Tp) (d : Dp) : Int :=
  if d.op = 2 then 0 else if d.op = 3 then (if rightN (bs d.to) = true then (if (findT l d.to).isSome = true then 14 else 0) else 8)
  else if d.op = 4 then addE t d
  else match colV t.cols d.co with
    | none => 13
    | some x => if d.op = 5 ∧ x.id = t.key then 15 else if d.op = 6 ∧ rightN (bs d.to) = false then 8 else if d.op = 6 ∧ (colP t.cols d.to).isSome = true then 14
      else if d.op = 7 ∧ rightT d.tk d.tm = false then 9 else if d.op = 7 ∧ wideT d.tk d.tm x.tk x.tm = false then 16 else if d.op = 8 ∧ presetD x.tk x.tm d.dk d.dn d.ds = false then 10 else 0
/-- a Default cast to a type -/
def castC (tk tm : Int) (c : Cb) : Cb := if nulV c.dk c.dn c.ds = true then { c with tk := tk, tm := tm, dk := 0, dn := 0, ds := ⟨#[]⟩ } else { c with tk := tk, tm := tm, dk := tk, dn := cN tk c.dn, ds := cS tk c.dk c.dn c.ds }
def colsD (t : Tp) (d : Dp) : List Cb :=
  if d.op = 4 then t.cols ++ [⟨t.nx, d.co, d.tk, d.tm, d.nl, d.dk, d.dn, d.ds⟩]
  else if d.op = 5 then t.cols.filter fun c => !eqS c.nm d.co
  else if d.op = 6 then t.cols.map fun c => if eqS c.nm d.co = true then { c with nm := d.to } else c
  else if d.op = 7 then t.cols.map fun c => if eqS c.nm d.co = true then castC d.tk d.tm c else c
  else if d.op = 8 then t.cols.map fun c => if eqS c.nm d.co = true then { c with dk := d.dk, dn := d.dn, ds := d.ds } else c
  else t.cols
/-- a table, changed -/
def tableD (t : Tp) (d : Dp) : Tp := ⟨t.id, if d.op = 3 then d.to else t.nm, t.key, if d.op = 4 then t.nx + 1 else t.nx, colsD t d⟩
theorem colP_none {l : List Cb} {s : ByteArray} (h : (colP l s).isSome ≠ true) : ∀ c ∈ l, c.nm ≠ s := fun c hc e => by
  unfold colP at h
  cases hf : l.findIdx? fun c => eqS c.nm s with
  | some k => rw [hf] at h; exact h rfl
  | none =>
    rw [List.findIdx?_eq_none_iff] at hf
    have := hf c hc
    rw [eqS_iff.2 e] at this; cases this
theorem colV_some {l : List Cb} {s : ByteArray} {x : Cb} (h : colV l s = some x) : x ∈ l ∧ x.nm = s := by
  unfold colV colP at h
  cases hf : l.findIdx? fun c => eqS c.nm s with
  | none => rw [hf] at h; cases h
  | some k =>
    rw [hf] at h
    obtain ⟨y, h1, h2, _⟩ := find_some hf
    have : l[k]? = some x := h
    rw [h1] at this; cases this
    exact ⟨List.mem_of_getElem? h1, eqS_iff.1 h2⟩
/-- in a list of unlike names two of one name are one -/
theorem apart_nm {l : List Cb} (hp : l.Pairwise (Apart Cb.id Cb.nm)) {a b : Cb} (ha : a ∈ l) (hb : b ∈ l) (h : a.nm = b.nm) : a = b := by
  obtain ⟨i, hi⟩ := List.mem_iff_getElem?.1 ha
  obtain ⟨j, hj⟩ := List.mem_iff_getElem?.1 hb
  obtain ⟨h1, rfl⟩ := List.getElem?_eq_some_iff.1 hi
  obtain ⟨h2, rfl⟩ := List.getElem?_eq_some_iff.1 hj
  rw [List.pairwise_iff_getElem] at hp
  rcases Nat.lt_trichotomy i j with e | e | e
  · exact absurd h (hp i j h1 h2 e).2
  · subst e; rfl
  · exact absurd h.symm (hp j i h2 h1 e).2
theorem rightC_iff (c : Cb) : rightC c = true ↔ 0 ≤ c.id ∧ c.id < 200 ∧ rightN (bs c.nm) = true ∧ rightT c.tk c.tm = true ∧ presetD c.tk c.tm c.dk c.dn c.ds = true := by
  unfold rightC presetD
  simp only [Bool.and_eq_true, decide_eq_true_eq]
theorem castC_right {c : Cb} {tk tm : Int} (hc : rightC c = true) (hw : wideT tk tm c.tk c.tm = true) (h1 : -9223372036854775808 ≤ c.dn) (h2 : c.dn < 9223372036854775808) : rightC (castC tk tm c) = true := by
  rw [rightC_iff] at hc ⊢
  obtain ⟨a1, a2, a3, a4, a5⟩ := hc
  have hr : rightT tk tm = true := by unfold wideT at hw; simp only [Bool.and_eq_true] at hw; exact hw.1.1.1
  unfold castC
  by_cases hn : nulV c.dk c.dn c.ds = true
  · rw [if_pos hn]
    refine ⟨a1, a2, a3, hr, ?_⟩
    unfold presetD
    rw [show nulV 0 0 ⟨#[]⟩ = true by unfold nulV; rw [show eqS ⟨#[]⟩ ByteArray.empty = true from eqS_self _]; rfl]; rfl
  · rw [if_neg hn]
    refine ⟨a1, a2, a3, hr, ?_⟩
    unfold presetD at a5 ⊢
    simp only [Bool.or_eq_true] at a5 ⊢
    rcases a5 with h | h
    · exact absurd h hn
    · right
      have hk : c.dk = c.tk := by rw [fit_iff] at h; exact h.2.2.1
      exact (widen hw h h1 h2).2
/-- numbers of 64 bits -/
def W64 (l : List Cb) : Prop := ∀ c ∈ l, -9223372036854775808 ≤ c.dn ∧ c.dn < 9223372036854775808
theorem map_right {t : Tp} (ht : RightT t) (f : Cb → Cb) (hid : ∀ c, (f c).id = c.id) (hnl : ∀ c, (f c).nl = c.nl) (hr : ∀ c ∈ t.cols, rightC (f c) = true) (hp : (t.cols.map f).Pairwise (Apart Cb.id Cb.nm)) :
    RightT ⟨t.id, t.nm, t.key, t.nx, t.cols.map f⟩ := by
  obtain ⟨t1, t2, t3, t4, t5, t6, t7, kc, k1, k2, k3⟩ := ht
  refine ⟨t1, t2, t3, by simpa using t4, by simpa using t5, fun c hc => ?_, hp, f kc, List.mem_map.2 ⟨kc, k1, rfl⟩, by rw [hid]; exact k2, by rw [hnl]; exact k3⟩
  obtain ⟨x, hx, rfl⟩ := List.mem_map.1 hc
  exact ⟨hr x hx, by rw [hid]; exact (t6 x hx).2⟩
theorem tableD_right {l : List Tp} {t : Tp} {d : Dp} (ht : RightT t) (h64 : W64 t.cols) (hop : d.op ≠ 1 ∧ d.op ≠ 2 ∧ 1 ≤ d.op ∧ d.op ≤ 8) (he : wrongE l t d = 0) : RightT (tableD t d) := by
  obtain ⟨t1, t2, t3, t4, t5, t6, t7, kc, k1, k2, k3⟩ := ht
  obtain ⟨o1, o2, o3, o4⟩ := hop
  unfold wrongE at he
  rw [if_neg o2] at he
  rcases (show d.op = 3 ∨ d.op = 4 ∨ d.op = 5 ∨ d.op = 6 ∨ d.op = 7 ∨ d.op = 8 by omega) with e | e | e | e | e | e
  · rw [if_pos e] at he
    have hN : rightN (bs d.to) = true := by
      cases h : rightN (bs d.to) with
      | true => rfl
      | false => rw [h] at he; cases he
    have hD : tableD t d = ⟨t.id, d.to, t.key, t.nx, t.cols⟩ := by unfold tableD colsD; simp [e]
    rw [hD]
    exact ⟨t1, hN, t3, t4, t5, t6, t7, kc, k1, k2, k3⟩
  · rw [if_neg (by omega), if_pos e] at he
    unfold addE at he
    by_cases hl : 10 ≤ t.cols.length ∨ 200 ≤ t.nx
    · rw [if_pos hl] at he; cases he
    rw [if_neg hl] at he
    by_cases hN : rightN (bs d.co) = true
    · rw [if_pos hN] at he
      by_cases hC : (colP t.cols d.co).isSome = true
      · rw [if_pos hC] at he; cases he
      rw [if_neg hC] at he
      by_cases hT : rightT d.tk d.tm = true
      · rw [if_pos hT] at he
        by_cases hP : presetD d.tk d.tm d.dk d.dn d.ds = true
        · have hD : tableD t d = ⟨t.id, t.nm, t.key, t.nx + 1, t.cols ++ [⟨t.nx, d.co, d.tk, d.tm, d.nl, d.dk, d.dn, d.ds⟩]⟩ := by unfold tableD colsD; simp [e]
          rw [hD]
          have hk := t6 kc k1
          have hk0 := ((rightC_iff kc).1 hk.1).1
          refine ⟨t1, t2, by show t.nx + 1 ≤ 200; omega, by simp, by simp; omega, fun c hc => ?_, ?_, kc, by simp [k1], k2, k3⟩
          · rcases List.mem_append.1 hc with h | h
            · have := t6 c h
              exact ⟨this.1, by show c.id < t.nx + 1; omega⟩
            · obtain rfl : c = ⟨t.nx, d.co, d.tk, d.tm, d.nl, d.dk, d.dn, d.ds⟩ := by simpa using h
              exact ⟨(rightC_iff _).2 ⟨by show 0 ≤ t.nx; omega, by show t.nx < 200; omega, hN, hT, hP⟩, by show t.nx < t.nx + 1; omega⟩
          · refine List.pairwise_append.2 ⟨t7, List.pairwise_singleton _ _, fun a ha b hb => ?_⟩
            obtain rfl : b = ⟨t.nx, d.co, d.tk, d.tm, d.nl, d.dk, d.dn, d.ds⟩ := by simpa using hb
            exact ⟨(t6 a ha).2, colP_none hC a ha⟩
        · rw [if_neg hP] at he; cases he
      · rw [if_neg hT] at he; cases he
    · rw [if_neg hN] at he; cases he
  · rw [if_neg (by omega), if_neg (by omega)] at he
    cases hx : colV t.cols d.co with
    | none => rw [hx] at he; cases he
    | some x =>
      rw [hx] at he
      obtain ⟨hxm, hxn⟩ := colV_some hx
      simp only [e] at he
      simp at he
      have hD : tableD t d = ⟨t.id, t.nm, t.key, t.nx, t.cols.filter fun c => !eqS c.nm d.co⟩ := by unfold tableD colsD; simp [e]
      rw [hD]
      have hkk : kc ∈ t.cols.filter fun c => !eqS c.nm d.co := by
        refine List.mem_filter.2 ⟨k1, ?_⟩
        cases hq : eqS kc.nm d.co with
        | false => rfl
        | true =>
          have := apart_nm t7 k1 hxm (by rw [eqS_iff.1 hq, hxn])
          rw [← this] at he
          exact absurd k2 he
      refine ⟨t1, t2, t3, List.length_pos_of_mem hkk, Nat.le_trans (List.length_filter_le _ _) t5, fun c hc => t6 c (List.mem_filter.1 hc).1, t7.filter _, kc, hkk, k2, k3⟩
  · rw [if_neg (by omega), if_neg (by omega)] at he
    cases hx : colV t.cols d.co with
    | none => rw [hx] at he; cases he
    | some x =>
      rw [hx] at he
      simp only [e] at he
      simp at he
      have hN : rightN (bs d.to) = true := by
        cases h : rightN (bs d.to) with
        | true => rfl
        | false => rw [h] at he; cases he
      have hC : (colP t.cols d.to).isSome ≠ true := fun h => by rw [hN, h] at he; cases he
      have hD : tableD t d = ⟨t.id, t.nm, t.key, t.nx, t.cols.map fun c => if eqS c.nm d.co = true then { c with nm := d.to } else c⟩ := by unfold tableD colsD; simp [e]
      rw [hD]
      refine map_right ⟨t1, t2, t3, t4, t5, t6, t7, kc, k1, k2, k3⟩ _ (fun c => by split <;> rfl) (fun c => by split <;> rfl) (fun c hc => ?_) (List.pairwise_map.2 (t7.imp_of_mem fun ha hb h => ⟨?_, ?_⟩))
      · split
        · have := (rightC_iff c).1 (t6 c hc).1
          exact (rightC_iff _).2 ⟨this.1, this.2.1, hN, this.2.2.2⟩
        · exact (t6 c hc).1
      · have := h.1
        split <;> split <;> exact this
      · have h0 := colP_none hC
        split
        · split
          · rename_i a b
            exact absurd ((eqS_iff.1 a).trans (eqS_iff.1 b).symm) h.2
          · exact fun e => h0 _ hb e.symm
        · split
          · exact fun e => h0 _ ha e
          · exact h.2
  · rw [if_neg (by omega), if_neg (by omega)] at he
    cases hx : colV t.cols d.co with
    | none => rw [hx] at he; cases he
    | some x =>
      rw [hx] at he
      obtain ⟨hxm, hxn⟩ := colV_some hx
      simp only [e] at he
      simp at he
      have hW : wideT d.tk d.tm x.tk x.tm = true := by
        cases h : rightT d.tk d.tm with
        | false => rw [h] at he; cases he
        | true =>
          cases h2 : wideT d.tk d.tm x.tk x.tm with
          | true => rfl
          | false => rw [h, h2] at he; cases he
      have hD : tableD t d = ⟨t.id, t.nm, t.key, t.nx, t.cols.map fun c => if eqS c.nm d.co = true then castC d.tk d.tm c else c⟩ := by unfold tableD colsD; simp [e]
      rw [hD]
      have hci : ∀ c, (castC d.tk d.tm c).id = c.id ∧ (castC d.tk d.tm c).nl = c.nl ∧ (castC d.tk d.tm c).nm = c.nm := fun c => by unfold castC; split <;> exact ⟨rfl, rfl, rfl⟩
      refine map_right ⟨t1, t2, t3, t4, t5, t6, t7, kc, k1, k2, k3⟩ _ (fun c => by split; exact (hci c).1; rfl) (fun c => by split; exact (hci c).2.1; rfl) (fun c hc => ?_) (List.pairwise_map.2 (t7.imp fun {a b} h => ?_))
      · split
        · rename_i hq
          have : c = x := apart_nm t7 hc hxm (by rw [eqS_iff.1 hq, hxn])
          subst this
          exact castC_right (t6 c hc).1 hW (h64 c hc).1 (h64 c hc).2
        · exact (t6 c hc).1
      · have ea : (if eqS a.nm d.co = true then castC d.tk d.tm a else a).id = a.id ∧ (if eqS a.nm d.co = true then castC d.tk d.tm a else a).nm = a.nm := by split; exact ⟨(hci a).1, (hci a).2.2⟩; exact ⟨rfl, rfl⟩
        have eb : (if eqS b.nm d.co = true then castC d.tk d.tm b else b).id = b.id ∧ (if eqS b.nm d.co = true then castC d.tk d.tm b else b).nm = b.nm := by split; exact ⟨(hci b).1, (hci b).2.2⟩; exact ⟨rfl, rfl⟩
        exact ⟨by rw [ea.1, eb.1]; exact h.1, by rw [ea.2, eb.2]; exact h.2⟩
  · rw [if_neg (by omega), if_neg (by omega)] at he
    cases hx : colV t.cols d.co with
    | none => rw [hx] at he; cases he
    | some x =>
      rw [hx] at he
      obtain ⟨hxm, hxn⟩ := colV_some hx
      simp only [e] at he
      simp at he
      have hD : tableD t d = ⟨t.id, t.nm, t.key, t.nx, t.cols.map fun c => if eqS c.nm d.co = true then { c with dk := d.dk, dn := d.dn, ds := d.ds } else c⟩ := by unfold tableD colsD; simp [e]
      rw [hD]
      refine map_right ⟨t1, t2, t3, t4, t5, t6, t7, kc, k1, k2, k3⟩ _ (fun c => by split <;> rfl) (fun c => by split <;> rfl) (fun c hc => ?_) (List.pairwise_map.2 (t7.imp fun {a b} h => ⟨?_, ?_⟩))
      · split
        · rename_i hq
          have : c = x := apart_nm t7 hc hxm (by rw [eqS_iff.1 hq, hxn])
          subst this
          have := (rightC_iff c).1 (t6 c hc).1
          exact (rightC_iff _).2 ⟨this.1, this.2.1, this.2.2.1, this.2.2.2.1, he⟩
        · exact (t6 c hc).1
      · have := h.1
        split <;> split <;> exact this
      · have := h.2
        split <;> split <;> exact this
/-! ### A new table -/
def madeT (d : Dp) (id : Int) : Tp := ⟨id, d.tb, (((colP d.cols d.key).getD 0 : Nat) : Int), (d.cols.length : Int), d.cols.mapIdx fun i c => { c with id := (i : Int) }⟩
def insT (t : Tp) : List Tp → List Tp
  | [] => [t]
  | x :: r => if t.id < x.id then t :: x :: r else x :: insT t r
theorem ncolsE_all (l : List Cb) : ∀ (r : List Cb) (i : Nat), ncolsE l i r = 0 → ∀ (j : Nat) c, r[j]? = some c → ncolE l (i + j) c = 0
  | [], _, _, j, c, h => by simp at h
  | a :: r, i, h0, j, c, h => by
    rw [ncolsE] at h0
    by_cases e : ncolE l i a = 0
    · rw [if_pos e] at h0
      cases j with
      | zero => simp at h; subst h; exact e
      | succ j =>
        have := ncolsE_all l r (i + 1) h0 j c (by simpa using h)
        rw [show i + (j + 1) = i + 1 + j by omega]; exact this
    · rw [if_neg e] at h0; exact absurd h0 e
theorem ncolE_0 {l : List Cb} {i : Nat} {c : Cb} (h : ncolE l i c = 0) : rightN (bs c.nm) = true ∧ (∀ j y, j < i → l[j]? = some y → y.nm ≠ c.nm) ∧ rightT c.tk c.tm = true ∧ presetD c.tk c.tm c.dk c.dn c.ds = true := by
  unfold ncolE at h
  by_cases h1 : rightN (bs c.nm) = true
  · rw [if_pos h1] at h
    by_cases h2 : ((l.take i).findIdx? fun y => eqS y.nm c.nm).isSome = true
    · rw [if_pos h2] at h; cases h
    rw [if_neg h2] at h
    by_cases h3 : rightT c.tk c.tm = true
    · rw [if_pos h3] at h
      by_cases h4 : presetD c.tk c.tm c.dk c.dn c.ds = true
      · refine ⟨h1, fun j y hj hy e => h2 ?_, h3, h4⟩
        cases hf : (l.take i).findIdx? fun y => eqS y.nm c.nm with
        | some q => rfl
        | none =>
          rw [List.findIdx?_eq_none_iff] at hf
          have := hf y (List.mem_of_getElem? (i := j) (by rw [List.getElem?_take]; simp [hj, hy]))
          rw [eqS_iff.2 e] at this; cases this
      · rw [if_neg h4] at h; cases h
    · rw [if_neg h3] at h; cases h
  · rw [if_neg h1] at h; cases h
/-- what is known where a table may be made -/
theorem createE_0 {l : List Tp} {d : Dp} {id : Int} (h : createE l d id = 0) : rightN (bs d.tb) = true ∧ (∀ t ∈ l, t.nm ≠ d.tb) ∧ l.length < 6 ∧ (∀ t ∈ l, t.id ≠ id) ∧ 1 ≤ d.cols.length ∧ d.cols.length ≤ 10 ∧
    (∀ (j : Nat) c, d.cols[j]? = some c → ncolE d.cols j c = 0) ∧ ∃ (k : Nat) (c : Cb), colP d.cols d.key = some k ∧ d.cols[k]? = some c ∧ c.nl = false := by
  unfold createE at h
  by_cases h1 : rightN (bs d.tb) = true
  · rw [if_pos h1] at h
    by_cases h2 : (findT l d.tb).isSome = true
    · rw [if_pos h2] at h; cases h
    rw [if_neg h2] at h
    by_cases h3 : 6 ≤ l.length
    · rw [if_pos h3] at h; cases h
    rw [if_neg h3] at h
    by_cases h4 : (l.findIdx? fun t => t.id == id).isSome = true
    · rw [if_pos h4] at h; cases h
    rw [if_neg h4] at h
    by_cases h5 : d.cols.length = 0
    · rw [if_pos h5] at h; cases h
    rw [if_neg h5] at h
    by_cases h6 : 10 < d.cols.length
    · rw [if_pos h6] at h; cases h
    rw [if_neg h6] at h
    by_cases h7 : ncolsE d.cols 0 d.cols = 0
    · rw [if_pos h7] at h
      refine ⟨h1, fun t ht e => h2 ?_, by omega, fun t ht e => h4 ?_, by omega, by omega, fun j c hj => ?_, ?_⟩
      · unfold findT
        cases hf : l.findIdx? fun t => eqS t.nm d.tb with
        | some q => rfl
        | none =>
          rw [List.findIdx?_eq_none_iff] at hf
          have := hf t ht
          rw [eqS_iff.2 e] at this; cases this
      · cases hf : l.findIdx? fun t => t.id == id with
        | some q => rfl
        | none =>
          rw [List.findIdx?_eq_none_iff] at hf
          have := hf t ht
          rw [e] at this; simp at this
      · have := ncolsE_all d.cols d.cols 0 h7 j c hj
        rwa [Nat.zero_add] at this
      · cases hk : colP d.cols d.key with
        | none => rw [hk] at h; cases h
        | some k =>
          rw [hk] at h
          obtain ⟨c, hc⟩ : ∃ c, d.cols[k]? = some c := by
            have := find_lt hk
            exact ⟨d.cols[k], by simp [this]⟩
          refine ⟨k, c, rfl, hc, ?_⟩
          simp only [Option.bind_some, hc] at h
          cases hn : c.nl with
          | false => rfl
          | true => rw [hn] at h; cases h
    · rw [if_neg h7] at h; exact absurd h h7
  · rw [if_neg h1] at h; cases h
theorem madeT_right {l : List Tp} {d : Dp} {id : Int} (h0 : 0 ≤ id) (h : createE l d id = 0) : RightT (madeT d id) := by
  obtain ⟨h1, _, _, _, h5, h6, h7, k, c, hk, hc, hn⟩ := createE_0 h
  have hg : ∀ (j : Nat) x, (d.cols.mapIdx fun i c => ({ c with id := (i : Int) } : Cb))[j]? = some x → ∃ y, d.cols[j]? = some y ∧ x = { y with id := (j : Int) } := fun j x hx => by
    rw [List.getElem?_mapIdx] at hx
    cases hy : d.cols[j]? with
    | none => rw [hy] at hx; cases hx
    | some y => rw [hy] at hx; exact ⟨y, rfl, (Option.some.inj hx).symm⟩
  have hl : ∀ (j : Nat) y, d.cols[j]? = some y → j < d.cols.length := fun j y hy => (List.getElem?_eq_some_iff.1 hy).1
  refine ⟨h0, h1, by show (d.cols.length : Int) ≤ 200; omega, by show 1 ≤ (d.cols.mapIdx _).length; rw [List.length_mapIdx]; exact h5, by show (d.cols.mapIdx _).length ≤ 10; rw [List.length_mapIdx]; exact h6, fun x hx => ?_, ?_, ?_⟩
  · obtain ⟨j, hj⟩ := List.mem_iff_getElem?.1 hx
    obtain ⟨y, hy, rfl⟩ := hg j x hj
    obtain ⟨a1, _, a3, a4⟩ := ncolE_0 (h7 j y hy)
    have := hl j y hy
    exact ⟨(rightC_iff _).2 ⟨by show (0 : Int) ≤ (j : Int); omega, by show (j : Int) < 200; omega, a1, a3, a4⟩, by show (j : Int) < (d.cols.length : Int); omega⟩
  · show (d.cols.mapIdx _).Pairwise _
    rw [List.pairwise_iff_getElem]
    intro i j hi hj hij
    obtain ⟨y, hy, ey⟩ := hg i _ (List.getElem?_eq_getElem hi)
    obtain ⟨z, hz, ez⟩ := hg j _ (List.getElem?_eq_getElem hj)
    rw [ey, ez]
    exact ⟨by show (i : Int) < (j : Int); omega, (ncolE_0 (h7 j z hz)).2.1 i y hij hy⟩
  · refine ⟨{ c with id := (k : Int) }, ?_, ?_, hn⟩
    · refine List.mem_of_getElem? (i := k) ?_
      show (d.cols.mapIdx _)[k]? = _
      rw [List.getElem?_mapIdx, hc]; rfl
    · show (k : Int) = (((colP d.cols d.key).getD 0 : Nat) : Int)
      rw [hk]; rfl
theorem mem_insT {t x : Tp} : ∀ {l : List Tp}, x ∈ insT t l ↔ x = t ∨ x ∈ l
  | [] => by simp [insT]
  | y :: r => by
    unfold insT
    split
    · simp
    · simp only [List.mem_cons, mem_insT (l := r)]
      constructor
      · rintro (h | h | h)
        · exact .inr (.inl h)
        · exact .inl h
        · exact .inr (.inr h)
      · rintro (h | h | h)
        · exact .inr (.inl h)
        · exact .inl h
        · exact .inr (.inr h)
theorem length_insT (t : Tp) : ∀ l : List Tp, (insT t l).length = l.length + 1
  | [] => rfl
  | y :: r => by
    unfold insT
    split
    · rfl
    · simp [length_insT t r]
theorem insT_apart {t : Tp} : ∀ {l : List Tp}, l.Pairwise (Apart Tp.id Tp.nm) → (∀ x ∈ l, x.id ≠ t.id ∧ x.nm ≠ t.nm) → (insT t l).Pairwise (Apart Tp.id Tp.nm)
  | [], _, _ => List.pairwise_singleton _ _
  | y :: r, hp, h => by
    rw [List.pairwise_cons] at hp
    unfold insT
    split
    · rename_i hlt
      rw [List.pairwise_cons, List.pairwise_cons]
      refine ⟨fun x hx => ?_, hp.1, hp.2⟩
      have hx' := (h x hx).2
      rcases List.mem_cons.1 hx with rfl | hx
      · exact ⟨hlt, fun e => hx' e.symm⟩
      · exact ⟨Int.lt_trans hlt (hp.1 x hx).1, fun e => hx' e.symm⟩
    · rename_i hge
      rw [List.pairwise_cons]
      refine ⟨fun x hx => ?_, insT_apart hp.2 fun x hx => h x (List.mem_cons_of_mem _ hx)⟩
      rcases mem_insT.1 hx with rfl | hx
      · have := h y List.mem_cons_self
        exact ⟨by have := this.1; omega, this.2⟩
      · exact hp.1 x hx
/-! ### The catalog behind a change -/
noncomputable def applyE (l : List Tp) (d : Dp) (id : Int) : Int :=
  if tf (RightL l) = true ∧ plainD d = true ∧ 0 ≤ id then (if d.op = 1 then createE l d id else match (findT l d.tb).bind fun k => l[k]? with
    | none => 12
    | some t => wrongE l t d)
  else 2
def applyR (l : List Tp) (d : Dp) (id : Int) : List Tp :=
  if d.op = 1 then insT (madeT d id) l else match findT l d.tb with
    | none => l
    | some k => if d.op = 2 then l.eraseIdx k else match l[k]? with
      | none => l
      | some t => l.set k (tableD t d)
theorem plainD_op {d : Dp} (h : plainD d = true) : 1 ≤ d.op ∧ d.op ≤ 8 := by
  unfold plainD at h
  by_cases e : d.op = 1 ∨ d.op = 2 ∨ d.op = 3 ∨ d.op = 4 ∨ d.op = 5 ∨ d.op = 6 ∨ d.op = 7 ∨ d.op = 8
  · omega
  · rw [if_neg (by omega), if_neg (by omega), if_neg (by omega), if_neg (by omega), if_neg (by omega), if_neg (by omega), if_neg (by omega), if_neg (by omega)] at h
    cases h
theorem findT_some {l : List Tp} {s : ByteArray} {k : Nat} (h : findT l s = some k) : ∃ t, l[k]? = some t ∧ t.nm = s := by
  obtain ⟨t, h1, h2, _⟩ := find_some h
  exact ⟨t, h1, eqS_iff.1 h2⟩
theorem findT_none {l : List Tp} {s : ByteArray} (h : (findT l s).isSome ≠ true) : ∀ t ∈ l, t.nm ≠ s := fun t ht e => by
  unfold findT at h
  cases hf : l.findIdx? fun t => eqS t.nm s with
  | some k => rw [hf] at h; exact h rfl
  | none =>
    rw [List.findIdx?_eq_none_iff] at hf
    have := hf t ht
    rw [eqS_iff.2 e] at this; cases this
/-- another table in a table's place, of the same number and of a name that no other has -/
theorem set_apart {l : List Tp} {k : Nat} {t u : Tp} (hp : l.Pairwise (Apart Tp.id Tp.nm)) (hk : l[k]? = some t) (hid : u.id = t.id) (hnm : ∀ (j : Nat) x, j ≠ k → l[j]? = some x → x.nm ≠ u.nm) : (l.set k u).Pairwise (Apart Tp.id Tp.nm) := by
  rw [List.pairwise_iff_getElem] at hp ⊢
  obtain ⟨hkl, rfl⟩ := List.getElem?_eq_some_iff.1 hk
  intro i j hi hj hij
  rw [List.length_set] at hi hj
  rw [List.getElem_set, List.getElem_set]
  by_cases e1 : k = i
  · subst e1
    rw [if_pos rfl, if_neg (by omega)]
    exact ⟨by rw [hid]; exact (hp k j hi hj hij).1, fun e => hnm j l[j] (by omega) (by simp [hj]) e.symm⟩
  · rw [if_neg e1]
    by_cases e2 : k = j
    · subst e2
      rw [if_pos rfl]
      exact ⟨by rw [hid]; exact (hp i k hi hj hij).1, hnm i l[i] (by omega) (by simp [hi])⟩
    · rw [if_neg e2]
      exact hp i j hi hj hij
/-- the changed catalog is right -/
theorem apply_right {l : List Tp} {d : Dp} {id : Int} (h64 : ∀ t ∈ l, W64 t.cols) (h : applyE l d id = 0) : RightL (applyR l d id) := by
  unfold applyE at h
  by_cases hc : tf (RightL l) = true ∧ plainD d = true ∧ 0 ≤ id
  · rw [if_pos hc] at h
    obtain ⟨hR, hP, hI⟩ := hc
    obtain ⟨r1, r2, r3⟩ := tf_iff.1 hR
    have hop := plainD_op hP
    by_cases e1 : d.op = 1
    · rw [if_pos e1] at h
      have hm := madeT_right hI h
      obtain ⟨_, c2, c3, c4, _⟩ := createE_0 h
      unfold applyR
      rw [if_pos e1]
      refine ⟨by rw [length_insT]; omega, fun t ht => ?_, insT_apart r3 fun x hx => ⟨c4 x hx, c2 x hx⟩⟩
      rcases mem_insT.1 ht with rfl | ht
      · exact hm
      · exact r2 t ht
    · rw [if_neg e1] at h
      unfold applyR
      rw [if_neg e1]
      cases hf : findT l d.tb with
      | none => rw [hf] at h; cases h
      | some k =>
        obtain ⟨t, ht, hn⟩ := findT_some hf
        rw [hf] at h
        simp only [Option.bind_some, ht] at h
        have htm := List.mem_of_getElem? ht
        by_cases e2 : d.op = 2
        · simp only [e2, if_pos]
          exact ⟨Nat.le_trans (List.length_eraseIdx_le l k) r1, fun x hx => r2 x (List.mem_of_mem_eraseIdx hx), r3.sublist (List.eraseIdx_sublist l k)⟩
        · simp only [ht, if_neg e2]
          have hT := tableD_right (r2 t htm) (h64 t htm) ⟨e1, e2, hop.1, hop.2⟩ h
          refine ⟨by rw [List.length_set]; exact r1, fun x hx => ?_, set_apart r3 ht rfl fun j x hj hx => ?_⟩
          · rcases List.mem_or_eq_of_mem_set hx with hx | rfl
            · exact r2 x hx
            · exact hT
          · show x.nm ≠ (if d.op = 3 then d.to else t.nm)
            by_cases e3 : d.op = 3
            · rw [if_pos e3]
              refine findT_none (l := l) (fun hs => ?_) x (List.mem_of_getElem? hx)
              unfold wrongE at h
              rw [if_neg e2, if_pos e3] at h
              split at h
              · cases h
              · cases h
            · rw [if_neg e3]
              rw [List.pairwise_iff_getElem] at r3
              obtain ⟨h1, rfl⟩ := List.getElem?_eq_some_iff.1 hx
              obtain ⟨h2, rfl⟩ := List.getElem?_eq_some_iff.1 ht
              rcases Nat.lt_or_gt_of_ne hj with e | e
              · exact (r3 j k h1 h2 e).2
              · exact fun q => (r3 k j h2 h1 e).2 q.symm
  · rw [if_neg hc] at h; cases h
end Go.Proofs.YthmjgaekcghonaaGreatDoor

/-
  What a change does to a catalog, by its members (layer 9): changes of unlike names in either order, tables that stay, numbers of columns that are kept.
-/
namespace Go.Proofs.YthmjgaekcghonaaGreatDoor

/-- in a list of unlike names, of unlike numbers, two of one name, of one number are one -/
theorem tp_nm {l : List Tp} (hp : l.Pairwise (Apart Tp.id Tp.nm)) {a b : Tp} (ha : a ∈ l) (hb : b ∈ l) (h : a.nm = b.nm) : a = b := by
  obtain ⟨i, hi⟩ := List.mem_iff_getElem?.1 ha
  obtain ⟨j, hj⟩ := List.mem_iff_getElem?.1 hb
  obtain ⟨h1, rfl⟩ := List.getElem?_eq_some_iff.1 hi
  obtain ⟨h2, rfl⟩ := List.getElem?_eq_some_iff.1 hj
  rw [List.pairwise_iff_getElem] at hp
  rcases Nat.lt_trichotomy i j with e | e | e
  · exact absurd h (hp i j h1 h2 e).2
  · subst e; rfl
  · exact absurd h.symm (hp j i h2 h1 e).2
theorem tp_id {l : List Tp} (hp : l.Pairwise (Apart Tp.id Tp.nm)) {a b : Tp} (ha : a ∈ l) (hb : b ∈ l) (h : a.id = b.id) : a = b := by
  obtain ⟨i, hi⟩ := List.mem_iff_getElem?.1 ha
  obtain ⟨j, hj⟩ := List.mem_iff_getElem?.1 hb
  obtain ⟨h1, rfl⟩ := List.getElem?_eq_some_iff.1 hi
  obtain ⟨h2, rfl⟩ := List.getElem?_eq_some_iff.1 hj
  rw [List.pairwise_iff_getElem] at hp
  rcases Nat.lt_trichotomy i j with e | e | e
  · have := (hp i j h1 h2 e).1; omega
  · subst e; rfl
  · have := (hp j i h2 h1 e).1; omega
/-- lists whose numbers increase are their members -/
theorem sorted_ext : ∀ {l m : List Tp}, l.Pairwise (Apart Tp.id Tp.nm) → m.Pairwise (Apart Tp.id Tp.nm) → (∀ x, x ∈ l ↔ x ∈ m) → l = m
  | [], [], _, _, _ => rfl
  | [], y :: m, _, _, h => by have := (h y).2 List.mem_cons_self; cases this
  | x :: l, [], _, _, h => by have := (h x).1 List.mem_cons_self; cases this
  | x :: l, y :: m, hl, hm, h => by
    rw [List.pairwise_cons] at hl hm
    have e : x = y := by
      rcases List.mem_cons.1 ((h x).1 List.mem_cons_self) with e | hx
      · exact e
      · rcases List.mem_cons.1 ((h y).2 List.mem_cons_self) with e | hy
        · exact e.symm
        · have := (hm.1 x hx).1; have := (hl.1 y hy).1; omega
    subst e
    congr 1
    refine sorted_ext hl.2 hm.2 fun z => ⟨fun hz => ?_, fun hz => ?_⟩
    · rcases List.mem_cons.1 ((h z).1 (List.mem_cons_of_mem _ hz)) with e | hz'
      · subst e; have := (hl.1 z hz).1; omega
      · exact hz'
    · rcases List.mem_cons.1 ((h z).2 (List.mem_cons_of_mem _ hz)) with e | hz'
      · subst e; have := (hm.1 z hz).1; omega
      · exact hz'
/-- a table that a change makes, or makes of one that was there -/
def NewT (l : List Tp) (d : Dp) (id : Int) (x : Tp) : Prop := (d.op = 1 ∧ x = madeT d id) ∨ (d.op ≠ 1 ∧ d.op ≠ 2 ∧ ∃ t ∈ l, t.nm = d.tb ∧ x = tableD t d)
theorem newT_nm {l : List Tp} {d : Dp} {id : Int} {x : Tp} (h : NewT l d id x) : x.nm = d.tb ∨ (d.op = 3 ∧ x.nm = d.to) := by
  rcases h with ⟨_, rfl⟩ | ⟨_, _, t, _, hn, rfl⟩
  · exact .inl rfl
  · show (if d.op = 3 then d.to else t.nm) = d.tb ∨ _
    by_cases e : d.op = 3
    · right; exact ⟨e, by show (if d.op = 3 then d.to else t.nm) = d.to; rw [if_pos e]⟩
    · left; rw [if_neg e, hn]
/-- what is known where a change may be done -/
theorem applyE_0 {l : List Tp} {d : Dp} {id : Int} (h : applyE l d id = 0) : RightL l ∧ plainD d = true ∧ 0 ≤ id ∧
    ((d.op = 1 ∧ createE l d id = 0) ∨ (d.op ≠ 1 ∧ ∃ k t, findT l d.tb = some k ∧ l[k]? = some t ∧ t.nm = d.tb ∧ wrongE l t d = 0)) := by
  unfold applyE at h
  by_cases hc : tf (RightL l) = true ∧ plainD d = true ∧ 0 ≤ id
  · rw [if_pos hc] at h
    refine ⟨tf_iff.1 hc.1, hc.2.1, hc.2.2, ?_⟩
    by_cases e : d.op = 1
    · rw [if_pos e] at h; exact .inl ⟨e, h⟩
    · rw [if_neg e] at h
      right
      refine ⟨e, ?_⟩
      cases hf : findT l d.tb with
      | none => rw [hf] at h; cases h
      | some k =>
        obtain ⟨t, ht, hn⟩ := findT_some hf
        rw [hf] at h
        simp only [Option.bind_some, ht] at h
        exact ⟨k, t, rfl, ht, hn, h⟩
  · rw [if_neg hc] at h; cases h
theorem mem_apply {l : List Tp} {d : Dp} {id : Int} (h : applyE l d id = 0) (x : Tp) : x ∈ applyR l d id ↔ (x ∈ l ∧ x.nm ≠ d.tb) ∨ NewT l d id x := by
  obtain ⟨⟨_, _, hp⟩, _, _, h⟩ := applyE_0 h
  unfold applyR NewT
  rcases h with ⟨e, hc⟩ | ⟨e, k, t, hf, ht, hn, _⟩
  · rw [if_pos e, mem_insT]
    have := (createE_0 hc).2.1
    constructor
    · rintro (h | h)
      · exact .inr (.inl ⟨e, h⟩)
      · exact .inl ⟨h, this x h⟩
    · rintro (h | h | h)
      · exact .inr h.1
      · exact .inl h.2
      · exact absurd e h.1
  · rw [if_neg e, hf]
    have htm := List.mem_of_getElem? ht
    obtain ⟨hkl, hkt⟩ := List.getElem?_eq_some_iff.1 ht
    by_cases e2 : d.op = 2
    · simp only [e2, if_pos]
      rw [List.mem_eraseIdx_iff_getElem?]
      constructor
      · rintro ⟨j, hj, hx⟩
        left
        refine ⟨List.mem_of_getElem? hx, fun q => hj ?_⟩
        obtain ⟨h1, rfl⟩ := List.getElem?_eq_some_iff.1 hx
        rw [List.pairwise_iff_getElem] at hp
        rcases Nat.lt_trichotomy j k with c | c | c
        · exact absurd (q.trans (hkt ▸ hn).symm) (hp j k h1 hkl c).2
        · exact c
        · exact absurd ((hkt ▸ hn).trans q.symm) (hp k j hkl h1 c).2
      · rintro (⟨h1, h2⟩ | ⟨h1, _⟩ | ⟨_, h2, _⟩)
        · obtain ⟨j, hj⟩ := List.mem_iff_getElem?.1 h1
          refine ⟨j, fun c => ?_, hj⟩
          subst c
          rw [ht] at hj; cases hj
          exact h2 hn
        · omega
        · omega
    · simp only [ht, if_neg e2]
      constructor
      · intro hx
        rcases List.mem_iff_getElem?.1 hx with ⟨j, hj⟩
        rw [List.getElem?_set] at hj
        split at hj
        · right; right
          exact ⟨e, e2, t, htm, hn, (Option.some.inj hj).symm⟩
        · rename_i c
          left
          refine ⟨List.mem_of_getElem? hj, fun q => c ?_⟩
          obtain ⟨h1, rfl⟩ := List.getElem?_eq_some_iff.1 hj
          rw [List.pairwise_iff_getElem] at hp
          rcases Nat.lt_trichotomy k j with w | w | w
          · exact absurd ((hkt ▸ hn).trans q.symm) (hp k j hkl h1 w).2
          · exact w
          · exact absurd (q.trans (hkt ▸ hn).symm) (hp j k h1 hkl w).2
      · rintro (⟨h1, h2⟩ | ⟨h1, _⟩ | ⟨_, _, u, hu, hun, rfl⟩)
        · obtain ⟨j, hj⟩ := List.mem_iff_getElem?.1 h1
          refine List.mem_of_getElem? (i := j) ?_
          rw [List.getElem?_set_ne (fun c => h2 ?_)]
          · exact hj
          · subst c
            rw [ht] at hj; cases hj
            exact hn
        · exact absurd h1 e
        · have : u = t := tp_nm hp hu htm (hun.trans hn.symm)
          subst this
          exact List.mem_of_getElem? (i := k) (by rw [List.getElem?_set_self hkl])
/-- the names that a change touches -/
def Touches (d : Dp) (s : ByteArray) : Prop := s = d.tb ∨ (d.op = 3 ∧ s = d.to)
/-- two changes of unlike names, in either order -/
theorem apply_comm {l : List Tp} {a b : Dp} {i j : Int} (h64 : ∀ t ∈ l, W64 t.cols) (h64a : ∀ t ∈ applyR l a i, W64 t.cols) (h64b : ∀ t ∈ applyR l b j, W64 t.cols) (hd : ∀ s, Touches a s → ¬ Touches b s)
    (ha : applyE l a i = 0) (hb : applyE l b j = 0) (hab : applyE (applyR l a i) b j = 0) (hba : applyE (applyR l b j) a i = 0) :
    applyR (applyR l a i) b j = applyR (applyR l b j) a i := by
  have _ := h64
  refine sorted_ext (apply_right h64a hab).2.2 (apply_right h64b hba).2.2 fun x => ?_
  have hne : a.tb ≠ b.tb := fun e => hd a.tb (.inl rfl) (.inl e)
  have new_ne : ∀ {x}, NewT l a i x → x.nm ≠ b.tb := fun {x} h e => by
    rcases newT_nm h with q | ⟨q1, q2⟩
    · exact hne (q.symm.trans e)
    · exact hd a.to (.inr ⟨q1, rfl⟩) (.inl (q2.symm.trans e))
  have new_ne' : ∀ {x}, NewT l b j x → x.nm ≠ a.tb := fun {x} h e => by
    rcases newT_nm h with q | ⟨q1, q2⟩
    · exact hne (e.symm.trans q)
    · exact hd a.tb (.inl rfl) (.inr ⟨q1, e.symm.trans q2⟩)
  have n1 : NewT (applyR l a i) b j x ↔ NewT l b j x := by
    unfold NewT
    constructor
    · rintro (h | ⟨o1, o2, t, ht, hn, rfl⟩)
      · exact .inl h
      · rcases (mem_apply ha t).1 ht with ⟨h1, _⟩ | h1
        · exact .inr ⟨o1, o2, t, h1, hn, rfl⟩
        · exact absurd hn (new_ne h1)
    · rintro (h | ⟨o1, o2, t, ht, hn, rfl⟩)
      · exact .inl h
      · exact .inr ⟨o1, o2, t, (mem_apply ha t).2 (.inl ⟨ht, fun e => hne (e.symm.trans hn)⟩), hn, rfl⟩
  have n2 : NewT (applyR l b j) a i x ↔ NewT l a i x := by
    unfold NewT
    constructor
    · rintro (h | ⟨o1, o2, t, ht, hn, rfl⟩)
      · exact .inl h
      · rcases (mem_apply hb t).1 ht with ⟨h1, _⟩ | h1
        · exact .inr ⟨o1, o2, t, h1, hn, rfl⟩
        · exact absurd hn (new_ne' h1)
    · rintro (h | ⟨o1, o2, t, ht, hn, rfl⟩)
      · exact .inl h
      · exact .inr ⟨o1, o2, t, (mem_apply hb t).2 (.inl ⟨ht, fun e => hne (hn.symm.trans e)⟩), hn, rfl⟩
  rw [mem_apply hab, mem_apply hba, n1, n2, mem_apply ha, mem_apply hb]
  constructor
  · rintro (⟨⟨h1, h2⟩ | h1, h3⟩ | h1)
    · exact .inl ⟨.inl ⟨h1, h3⟩, h2⟩
    · exact .inr h1
    · exact .inl ⟨.inr h1, new_ne' h1⟩
  · rintro (⟨⟨h1, h2⟩ | h1, h3⟩ | h1)
    · exact .inl ⟨.inl ⟨h1, h3⟩, h2⟩
    · exact .inr h1
    · exact .inl ⟨.inr h1, new_ne h1⟩
/-- a table of another name stays -/
theorem apply_stays {l : List Tp} {d : Dp} {id : Int} (h : applyE l d id = 0) {t : Tp} (ht : t ∈ l) (hn : t.nm ≠ d.tb) : t ∈ applyR l d id := (mem_apply h t).2 (.inl ⟨ht, hn⟩)
/-- what a change makes of a table of a number: Next never falls, no column gets a number that none has, and but by DCall no column another name -/
theorem apply_keeps {l : List Tp} {d : Dp} {id : Int} (h : applyE l d id = 0) {t u : Tp} (ht : t ∈ l) (hu : u ∈ applyR l d id) (hid : u.id = t.id) :
    t.nx ≤ u.nx ∧ u.key = t.key ∧ ∀ c ∈ u.cols, c.id < t.nx → ∃ c' ∈ t.cols, c'.id = c.id ∧ (d.op ≠ 6 → c'.nm = c.nm) := by
  obtain ⟨⟨_, _, hp⟩, _, _, hc⟩ := applyE_0 h
  rcases (mem_apply h u).1 hu with ⟨h1, _⟩ | h1
  · have := tp_id hp h1 ht hid
    subst this
    exact ⟨Int.le_refl _, rfl, fun c hc _ => ⟨c, hc, rfl, fun _ => rfl⟩⟩
  · rcases h1 with ⟨e, rfl⟩ | ⟨e1, e2, t', ht', hn', rfl⟩
    · rcases hc with ⟨_, hc⟩ | ⟨e', _⟩
      · exact absurd hid.symm ((createE_0 hc).2.2.2.1 t ht)
      · exact absurd e e'
    · have : t' = t := tp_id hp ht' ht hid
      subst this
      refine ⟨?_, rfl, fun c hc hlt => ?_⟩
      · show t'.nx ≤ (if d.op = 4 then t'.nx + 1 else t'.nx)
        split <;> omega
      · have hc' : c ∈ colsD t' d := hc
        unfold colsD at hc'
        by_cases e4 : d.op = 4
        · rw [if_pos e4] at hc'
          rcases List.mem_append.1 hc' with q | q
          · exact ⟨c, q, rfl, fun _ => rfl⟩
          · obtain rfl : c = ⟨t'.nx, d.co, d.tk, d.tm, d.nl, d.dk, d.dn, d.ds⟩ := by simpa using q
            exact absurd hlt (by show ¬ t'.nx < t'.nx; omega)
        rw [if_neg e4] at hc'
        by_cases e5 : d.op = 5
        · rw [if_pos e5] at hc'
          exact ⟨c, (List.mem_filter.1 hc').1, rfl, fun _ => rfl⟩
        rw [if_neg e5] at hc'
        by_cases e6 : d.op = 6
        · rw [if_pos e6] at hc'
          obtain ⟨y, hy, rfl⟩ := List.mem_map.1 hc'
          exact ⟨y, hy, by split <;> rfl, fun q => absurd e6 q⟩
        rw [if_neg e6] at hc'
        by_cases e7 : d.op = 7
        · rw [if_pos e7] at hc'
          obtain ⟨y, hy, rfl⟩ := List.mem_map.1 hc'
          refine ⟨y, hy, ?_, fun _ => ?_⟩
          · unfold castC; split <;> (try split) <;> rfl
          · unfold castC; split <;> (try split) <;> rfl
        rw [if_neg e7] at hc'
        by_cases e8 : d.op = 8
        · rw [if_pos e8] at hc'
          obtain ⟨y, hy, rfl⟩ := List.mem_map.1 hc'
          exact ⟨y, hy, by split <;> rfl, fun _ => by split <;> rfl⟩
        rw [if_neg e8] at hc'
        exact ⟨c, hc', rfl, fun _ => rfl⟩
/-- numbers stay numbers of 64 bits -/
theorem apply_w64 {l : List Tp} {d : Dp} {id : Int} (h64 : ∀ t ∈ l, W64 t.cols) (hd : -9223372036854775808 ≤ d.dn ∧ d.dn < 9223372036854775808) (hc : W64 d.cols) (h : applyE l d id = 0) : ∀ t ∈ applyR l d id, W64 t.cols := fun t ht => by
  rcases (mem_apply h t).1 ht with ⟨h1, _⟩ | h1
  · exact h64 t h1
  · rcases h1 with ⟨_, rfl⟩ | ⟨_, _, u, hu, _, rfl⟩
    · intro c hcm
      have hcm' : c ∈ d.cols.mapIdx fun i c => ({ c with id := (i : Int) } : Cb) := hcm
      obtain ⟨i, hi⟩ := List.mem_iff_getElem?.1 hcm'
      rw [List.getElem?_mapIdx] at hi
      cases hy : d.cols[i]? with
      | none => rw [hy] at hi; cases hi
      | some y =>
        rw [hy] at hi
        have e := (Option.some.inj hi).symm
        rw [e]
        exact hc y (List.mem_of_getElem? hy)
    · have hu64 := h64 u hu
      intro c hcm
      have hcm' : c ∈ colsD u d := hcm
      unfold colsD at hcm'
      split at hcm'
      · rcases List.mem_append.1 hcm' with q | q
        · exact hu64 c q
        · obtain rfl : c = ⟨u.nx, d.co, d.tk, d.tm, d.nl, d.dk, d.dn, d.ds⟩ := by simpa using q
          exact hd
      split at hcm'
      · exact hu64 c (List.mem_filter.1 hcm').1
      split at hcm'
      · obtain ⟨y, hy, rfl⟩ := List.mem_map.1 hcm'
        have := hu64 y hy
        split <;> exact this
      split at hcm'
      · obtain ⟨y, hy, rfl⟩ := List.mem_map.1 hcm'
        have := hu64 y hy
        split
        · unfold castC
          split
          · exact ⟨by show (-9223372036854775808 : Int) ≤ 0; omega, by show (0 : Int) < 9223372036854775808; omega⟩
          · show -9223372036854775808 ≤ cN d.tk y.dn ∧ cN d.tk y.dn < 9223372036854775808
            unfold cN
            cases numK d.tk
            · exact ⟨by show (-9223372036854775808 : Int) ≤ 0; omega, by show (0 : Int) < 9223372036854775808; omega⟩
            · exact this
        · exact this
      split at hcm'
      · obtain ⟨y, hy, rfl⟩ := List.mem_map.1 hcm'
        have := hu64 y hy
        split
        · exact hd
        · exact this
      · exact hu64 c hcm'
/-- the changes one behind the other: the catalog, how many were done, the error -/
noncomputable def allD (l : List Tp) (first : Int) : Nat → List Dp → List Tp × Nat × Int
  | i, [] => (l, i, 0)
  | i, d :: r => if 9223372036854775807 - (i : Int) < first then ([], i, 2) else if applyE l d (first + i) = 0 then allD (applyR l d (first + i)) first (i + 1) r else ([], i, applyE l d (first + i))
end Go.Proofs.YthmjgaekcghonaaGreatDoor
