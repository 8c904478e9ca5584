/-
  Rows of values (three cells an element): such as lie somewhere, such as a call makes by itself, and a parameter of type []api.Value.
-/
import Derived.Test.YtbbdmphclnnejaaDoorSkReadMath
import Derived.Test.YtbbdmphclnnejaaDoorInts
import Derived.Test.YtbbdmphclnnejaaDoorValOpen
import Derived.Deep.Slices
import Derived.Deep.Strs
namespace Go.Proofs.YtbbdmphclnnejaaDoor
open Go.RowKit

/-- a value with its string as the program has it -/
abbrev Vb := Int × Int × ByteArray
def vl (v : Vb) : Vl := (v.1, v.2.1, bs v.2.2)
def vls (l : List Vb) : List Vl := l.map vl
theorem vl_inj {a b : Vb} (h : vl a = vl b) : a = b := by
  obtain ⟨k, n, s⟩ := a
  obtain ⟨k', n', s'⟩ := b
  simp [vl] at h
  obtain ⟨rfl, rfl, h⟩ := h
  rw [bs_eq h]
theorem vls_inj {a b : List Vb} (h : vls a = vls b) : a = b := by
  induction a generalizing b with
  | nil => cases b with
    | nil => rfl
    | cons y b => simp [vls] at h
  | cons x a ih => cases b with
    | nil => simp [vls] at h
    | cons y b =>
      simp only [vls, List.map_cons, List.cons.injEq] at h
      rw [vl_inj h.1, ih h.2]
theorem vls_length (l : List Vb) : (vls l).length = l.length := List.length_map _
theorem vls_at (l : List Vb) (k : Nat) (h : k < l.length) : (vls l)[k]? = some (vl l[k]) := by simp [vls, h]

theorem infoV : (Tryd.prog.info? 30).map (fun i => (i.zero, i.size, i.bytes)) = some (some (.agg #[.int .i64 0, .int .i64 0, .string ByteArray.empty]), 3, 32) := by kernel_rfl
/-- values as cells -/
def P3 : List Vb → List Value
  | [] => []
  | t :: r => Value.int .i64 t.1 :: Value.int .i64 t.2.1 :: Value.string t.2.2 :: P3 r
theorem P3_append (a b : List Vb) : P3 (a ++ b) = P3 a ++ P3 b := by
  induction a with
  | nil => rfl
  | cons x r ih => simp [P3, ih]
theorem P3_at (l : List Vb) (i : Nat) (t : Vb) (h : l[i]? = some t) : (P3 l)[i * 3]? = some (.int .i64 t.1) ∧ (P3 l)[i * 3 + 1]? = some (.int .i64 t.2.1) ∧ (P3 l)[i * 3 + 2]? = some (.string t.2.2) := by
  induction l generalizing i with
  | nil => simp at h
  | cons x r ih =>
    cases i with
    | zero => simp at h; subst h; exact ⟨rfl, rfl, rfl⟩
    | succ i =>
      have := ih i (by simpa using h)
      rw [show (i + 1) * 3 = i * 3 + 1 + 1 + 1 by omega, show i * 3 + 1 + 1 + 1 + 1 = i * 3 + 1 + 1 + 1 + 1 by omega]
      rw [show i * 3 + 1 + 1 + 1 + 2 = i * 3 + 2 + 1 + 1 + 1 by omega]
      simpa [P3] using this
theorem P3_one (l : List Vb) : ∀ u ∈ P3 l, u.oneCell' = true := by
  induction l with
  | nil => intro u hu; cases hu
  | cons x r ih =>
    intro u hu
    simp [P3] at hu
    rcases hu with rfl | rfl | rfl | hu
    · rfl
    · rfl
    · rfl
    · exact ih u hu
/-- the slice value v is a row of the call's own, from block base on, and holds the values l -/
def OwnV (w : World) (base : Nat) (v : Value) (l : List Vb) : Prop := w.ownsRow base 30 3 v l.length (P3 l)
theorem OwnV.nil (w : World) (base : Nat) : OwnV w base (.slice none 0 0) [] := World.ownsRow_nil _ _ _ _
theorem OwnV.below {w w' : World} {base : Nat} {v : Value} {l : List Vb} (h : OwnV w base v l) (hb : Below w.heap.size w w') : OwnV w' base v l := owns_below h hb
theorem OwnV.alloc {w : World} {base : Nat} {v : Value} {l : List Vb} (h : OwnV w base v l) (o : Obj) : OwnV (w.alloc o) base v l := World.ownsRow.alloc h o
/-- a slice of values that lies below block B -/
def ValsAt (w : World) (B : Nat) (A : Option Addr) (l : List Vb) : Prop :=
  0 < l.length → ∃ b off, A = some ⟨b, off, none⟩ ∧ b < B ∧ ∀ j t, l[j]? = some t →
    w.cell? ⟨b, off + j * 3, none⟩ = some (.int .i64 t.1) ∧ w.cell? ⟨b, off + j * 3 + 1, none⟩ = some (.int .i64 t.2.1) ∧ w.cell? ⟨b, off + j * 3 + 2, none⟩ = some (.string t.2.2)
theorem ValsAt.of_own {w : World} {base : Nat} {v : Value} {l : List Vb} (h : OwnV w base v l) : ∃ A c, v = .slice A l.length c ∧ ValsAt w w.heap.size A l := by
  rcases h.2 with ⟨rfl, hl⟩ | ⟨g, cap, cur, rfl, hb, hg, _⟩
  · exact ⟨none, 0, by rw [hl], fun hp => absurd hp (by omega)⟩
  · refine ⟨some ⟨g, 0, none⟩, cap, rfl, fun _ => ⟨g, 0, rfl, (Array.getElem?_eq_some_iff.1 hg).1, fun j t hj => ?_⟩⟩
    obtain ⟨q1, q2, q3⟩ := P3_at l j t hj
    have r1 := World.ownsRow.cells h (g := g) rfl _ _ q1
    have r2 := World.ownsRow.cells h (g := g) rfl _ _ q2
    have r3 := World.ownsRow.cells h (g := g) rfl _ _ q3
    rw [Addr.add_lit] at r1 r2 r3
    exact ⟨r1, by rw [Nat.add_assoc]; exact r2, by rw [Nat.add_assoc]; exact r3⟩
theorem ValsAt.below {w w' : World} {B : Nat} {A : Option Addr} {l : List Vb} (h : ValsAt w B A l) (hb : Below B w w') : ValsAt w' B A l := fun hl => by
  obtain ⟨b, off, rfl, h1, h2⟩ := h hl
  exact ⟨b, off, rfl, h1, fun j t hj => ⟨(hb.cell (p := ⟨b, off + j * 3, none⟩) h1).trans (h2 j t hj).1, (hb.cell (p := ⟨b, off + j * 3 + 1, none⟩) h1).trans (h2 j t hj).2.1, (hb.cell (p := ⟨b, off + j * 3 + 2, none⟩) h1).trans (h2 j t hj).2.2⟩⟩
theorem ValsAt.more {w : World} {B B' : Nat} {A : Option Addr} {l : List Vb} (h : ValsAt w B A l) (hB : B ≤ B') : ValsAt w B' A l := fun hl => by
  obtain ⟨b, off, rfl, h1, h2⟩ := h hl
  exact ⟨b, off, rfl, by omega, h2⟩
theorem ValsAt.to {w w' : World} {A : Option Addr} {l : List Vb} (h : ValsAt w w.heap.size A l) (hb : Below w.heap.size w w') : ValsAt w' w'.heap.size A l := (h.below hb).more hb.size
/-- a row of one value, as a call makes it -/
theorem ValsAt.one (w : World) (k n : Int) (s : ByteArray) : ValsAt (w.alloc (.cells #[.int .i64 k, .int .i64 n, .string s] 30)) (w.alloc (.cells #[.int .i64 k, .int .i64 n, .string s] 30)).heap.size (some ⟨w.heap.size, 0, none⟩) [(k, n, s)] := fun _ => by
  refine ⟨w.heap.size, 0, rfl, by simp, fun j t hj => ?_⟩
  match j, hj with
  | 0, hj => simp at hj; subst hj; simp
/-- the cells of one element -/
theorem ValsAt.get {w : World} {B : Nat} {A : Option Addr} {l : List Vb} (h : ValsAt w B A l) (k : Nat) (hk : k < l.length) : ∃ b off, A = some ⟨b, off, none⟩ ∧ b < B ∧
    w.cell? ⟨b, off + k * 3, none⟩ = some (.int .i64 l[k].1) ∧ w.cell? ⟨b, off + k * 3 + 1, none⟩ = some (.int .i64 l[k].2.1) ∧ w.cell? ⟨b, off + k * 3 + 2, none⟩ = some (.string l[k].2.2) := by
  obtain ⟨b, off, rfl, h1, h2⟩ := h (by omega)
  exact ⟨b, off, rfl, h1, h2 k l[k] (by simp [hk])⟩

/-- one value appended to a row of the call's own -/
theorem wpList_append_val {w : World} {ops : Array Oper} {rest : List Oper} {o : Oper} {a : Act} {Q : Exit → Act → World → Prop} (hgd : o.guard = none) (s x : Operand)
    (ho : o.op = .call { callee := .builtin .append, args := #[s, x], argTypes := #[22, 22] })
    (base : Nat) (v : Value) (l : List Vb) (k n : Int) (t : ByteArray) (g : Nat)
    (hown : OwnV w base v l) (hs : a.eval s = v) (hx : a.eval x = .slice (some ⟨g, 0, none⟩) 1 1) (hg : g = w.heap.size) (hlen : l.length < 1000000) (hbase : base ≤ w.heap.size)
    (h : ∀ v' w', OwnV w' base v' (l ++ [(k, n, t)]) → Below base w w' → wpList Tryd.prog ops Q rest (a.put o.dst v') w') :
    wpList Tryd.prog ops Q (o :: rest) a (w.alloc (.cells #[.int .i64 k, .int .i64 n, .string t] 30)) := by
  subst hg
  obtain ⟨i0, hi, hz0, hz1, hz2⟩ := info_parts infoV
  refine wpList_append_own _ hgd s x 22 ho base 30 i0 (.agg #[.int .i64 0, .int .i64 0, .string ByteArray.empty]) 3 32 Tryd.underlying22 hi hz0 hz1 hz2 rfl (by decide) v l.length (P3 l) hs (World.ownsRow.alloc hown _)
    ⟨w.heap.size, 0, none⟩ 1 1 (P3 [(k, n, t)]) hx rfl (fun j u hj => ?_) (P3_one _) (by unfold maxLen; omega) (by omega) (by simp; omega) ?_
  · match j, hj with
    | 0, hj => simp [P3] at hj; subst hj; simp [Addr.add]
    | 1, hj => simp [P3] at hj; subst hj; simp [Addr.add]
    | 2, hj => simp [P3] at hj; subst hj; simp [Addr.add]
    | j + 3, hj => simp [P3] at hj
  · intro v' w' h1 h2 _
    refine h v' w' ?_ (((Below.refl base w).alloc hbase _).grown h2 (by simp; omega) (fun k hk => ?_))
    · unfold OwnV
      rw [P3_append, List.length_append]
      exact h1
    · exact ((World.ownsRow.lt hown) k hk).1

/-- values come in -/
def ValsIn (w : World) (a : Option Addr) (len : Nat) (l : List Vb) : Prop :=
  l.length = len ∧ len ≤ maxLen ∧ ValsAt w w.heap.size a l ∧ ∀ v ∈ l, (Lit.int .i64 v.1).wf = true ∧ (Lit.int .i64 v.2.1).wf = true ∧ v.2.2.size ≤ maxLen
theorem valsIn_of {H : Type} {enc : TypeId × Value → H} {W : World} {a : Option Addr} {len cap : Nat} {d : DataW H} {p : List MemPlace} {sp : Nat → Bool}
    (h : DataW.Trod enc Tryd.prog W 0 sp true 22 (.slice a len cap) d p) : ∃ l, ValsIn W a len l := by
  obtain ⟨fuel, hf⟩ := h
  rcases Go.Deep.open_slice Tryd.underlying22 hf with ⟨hcs, _⟩ | ⟨x, ln, cp, m, n, D, Pl, hcs, hb, hl, hm, hmm, _, hx⟩
  · simp [Value.cells] at hcs
    obtain ⟨rfl, rfl, rfl⟩ := hcs
    exact ⟨[], rfl, Nat.zero_le _, fun hp => absurd hp (by simp), by simp⟩
  · simp [Value.cells] at hcs
    obtain ⟨rfl, rfl, rfl⟩ := hcs
    rw [cellsV] at hx
    have hlm : len ≤ m := by rw [hmm]; split <;> omega
    have one : ∀ i, i < len → ∃ v : Vb, (W.cell? (x.add (i * 3)) = some (.int .i64 v.1) ∧ W.cell? ((x.add (i * 3)).add 1) = some (.int .i64 v.2.1) ∧ W.cell? ((x.add (i * 3)).add 2) = some (.string v.2.2)) ∧
        (Lit.int .i64 v.1).wf = true ∧ (Lit.int .i64 v.2.1).wf = true ∧ v.2.2.size ≤ maxLen := fun i hi => by
      obtain ⟨cs, h1, h2⟩ := hx i (by omega)
      obtain ⟨_, hlen, hc⟩ := World.cells?_some h1
      obtain ⟨y0, y1, y2, n', _, _, t0, t1, t2⟩ := Go.Deep.trod_struct3 Tryd.underlying30 h2
      match cs, hlen with
      | [c0, c1, c2], _ =>
        have e0 := hc 0 (by omega)
        have e1 := hc 1 (by omega)
        have e2 := hc 2 (by omega)
        have z0 : (x.add (i * 3)).add 0 = x.add (i * 3) := by simp [Addr.add]
        rw [z0] at e0
        simp at e0 e1 e2
        have q1 : Tryd.prog.cellsOf 3 = 1 := by kernel_rfl
        have q2 : Tryd.prog.cellsOf 2 = 1 := by kernel_rfl
        have q3 : Tryd.prog.cellsOf 9 = 1 := by kernel_rfl
        simp [q1, q2, q3] at t0 t1 t2
        obtain ⟨k, r0, _, w0⟩ := DataW.trod_int Tryd.underlying3 t0
        obtain ⟨n, r1, _, w1⟩ := DataW.trod_int Tryd.underlying2 t1
        obtain ⟨s, r2, _, w2⟩ := DataW.trod_string Tryd.underlying9 t2
        simp at r0 r1 r2
        subst r0 r1 r2
        exact ⟨(k, n, s), ⟨e0, e1, e2⟩, w0, w1, w2⟩
    have : Inhabited Vb := ⟨(0, 0, ByteArray.empty)⟩
    obtain ⟨f, hf⟩ := Go.Deep.choose_lt one
    refine ⟨(List.range len).map f, by simp, by omega, fun hp => ?_, fun v hv => ?_⟩
    · simp at hp
      obtain ⟨⟨e0, _⟩, _⟩ := hf 0 hp
      obtain ⟨b, off, spt⟩ := x
      obtain rfl : spt = none := by simpa [Addr.add] using World.cell?_spot e0
      have hlt := World.block_lt_of_cell? W _ e0
      rw [Addr.add_lit] at hlt
      refine ⟨b, off, rfl, hlt, fun j t hj => ?_⟩
      have hjl : j < len := by
        have := (List.getElem?_eq_some_iff.1 hj).1
        simpa using this
      obtain ⟨⟨g0, g1, g2⟩, _⟩ := hf j hjl
      have ht : f j = t := by simpa [hjl] using hj
      subst ht
      simp only [Addr.add_lit] at g0 g1 g2
      exact ⟨g0, g1, g2⟩
    · simp at hv
      obtain ⟨i, hi, rfl⟩ := hv
      exact (hf i hi).2
theorem in64_of {l : List Vb} (h : ∀ v ∈ l, (Lit.int .i64 v.1).wf = true ∧ (Lit.int .i64 v.2.1).wf = true ∧ v.2.2.size ≤ maxLen) : ∀ v ∈ vls l, in64 v := fun v hv => by
  simp only [vls, List.mem_map] at hv
  obtain ⟨x, hx, rfl⟩ := hv
  exact wf64 (h x hx).2.1
end Go.Proofs.YtbbdmphclnnejaaDoor
