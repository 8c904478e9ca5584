/-
  Rows of cells (six cells an element), and the document's own SameCells of layer 8.
-/
import Derived.Test.YtmcgcanpaffggaaDoorPart1
import Derived.Test.YtmcgcanpaffggaaDoorPart2
import Derived.Test.YtmcgcanpaffggaaDoorPart3
namespace Go.Proofs.YtmcgcanpaffggaaDoor
open Go.RowKit

structure Xb where
  nm : ByteArray
  tk : Int
  tm : Int
  k : Int
  n : Int
  s : ByteArray
abbrev XV (x : Xb) : Value := .agg #[.string x.nm, .int .i64 x.tk, .int .i64 x.tm, .int .i64 x.k, .int .i64 x.n, .string x.s]
def fX (x : Xb) : List Value := [.string x.nm, .int .i64 x.tk, .int .i64 x.tm, .int .i64 x.k, .int .i64 x.n, .string x.s]
def PX (l : List Xb) : List Value := l.flatMap fX
def eqX (a b : Xb) : Bool := eqS a.nm b.nm && ((a.tk == b.tk) && ((a.tm == b.tm) && ((a.k == b.k) && ((a.n == b.n) && eqS a.s b.s))))
theorem eqX_self (a : Xb) : eqX a a = true := by unfold eqX; rw [eqS_self, eqS_self]; simp
theorem run_neq_X (w : World) (a b : Xb) : (binOp .neq 91 (XV a) (XV b)).run Tryd.prog w = .ok (.bool (!eqX a b)) w := by
  unfold eqX
  cases h1 : (a.nm.toList == b.nm.toList)
  · simp [go_sem, h1]
  cases h2 : (a.tk == b.tk)
  · simp [go_sem, h1, h2]
  cases h3 : (a.tm == b.tm)
  · simp [go_sem, h1, h2, h3]
  cases h5 : (a.k == b.k)
  · simp [go_sem, h1, h2, h3, h5]
  cases h6 : (a.n == b.n)
  · simp [go_sem, h1, h2, h3, h5, h6]
  cases h7 : (a.s.toList == b.s.toList)
  · simp [go_sem, h1, h2, h3, h5, h6, h7]
  simp [go_sem, h1, h2, h3, h5, h6, h7]
theorem PX_append (a b : List Xb) : PX (a ++ b) = PX a ++ PX b := List.flatMap_append
theorem PX_at : ∀ (l : List Xb) (j i : Nat) (x : Xb) (v : Value), l[j]? = some x → (fX x)[i]? = some v → (PX l)[j * 6 + i]? = some v
  | [], j, i, x, v, h, _ => by simp at h
  | y :: r, 0, i, x, v, h, hv => by
    have e : y = x := by simpa using h
    subst e
    have hi : i < 6 := (List.getElem?_eq_some_iff.1 hv).1
    show (fX y ++ PX r)[0 * 6 + i]? = _
    rw [show 0 * 6 + i = i by omega, List.getElem?_append_left (by exact hi)]
    exact hv
  | y :: r, j + 1, i, x, v, h, hv => by
    have ih := PX_at r j i x v (by simpa using h) hv
    show (fX y ++ PX r)[(j + 1) * 6 + i]? = _
    rw [List.getElem?_append_right (by show 6 ≤ _; omega), show (j + 1) * 6 + i - (fX y).length = j * 6 + i by show (j + 1) * 6 + i - 6 = _; omega]
    exact ih
/-- the slice value v is a row of the call's own and holds the cells l -/
def OwnX (w : World) (base : Nat) (v : Value) (l : List Xb) : Prop := w.ownsRow base 91 6 v l.length (PX l)
theorem OwnX.nil (w : World) (base : Nat) : OwnX w base (.slice none 0 0) [] := World.ownsRow_nil _ _ _ _
theorem OwnX.below {w w' : World} {base : Nat} {v : Value} {l : List Xb} (h : OwnX w base v l) (hb : Below w.heap.size w w') : OwnX w' base v l := owns_below h hb
theorem OwnX.alloc {w : World} {base : Nat} {v : Value} {l : List Xb} (h : OwnX w base v l) (o : Obj) : OwnX (w.alloc o) base v l := World.ownsRow.alloc h o
def CellsAt (w : World) (B : Nat) (A : Option Addr) (l : List Xb) : Prop := RowAt 6 fX w B A l
theorem CellsAt.of_own {w : World} {base : Nat} {v : Value} {l : List Xb} (h : OwnX w base v l) : ∃ A c, v = .slice A l.length c ∧ CellsAt w w.heap.size A l := by
  rcases h.2 with ⟨rfl, hl⟩ | ⟨g, cap, cur, rfl, hb, hg, _⟩
  · exact ⟨none, 0, by rw [hl], fun hp => absurd hp (by omega)⟩
  · refine ⟨some ⟨g, 0, none⟩, cap, rfl, fun _ => ⟨g, 0, rfl, (Array.getElem?_eq_some_iff.1 hg).1, fun j x hj i u hu => ?_⟩⟩
    have r1 := World.ownsRow.cells h (g := g) rfl _ _ (PX_at l j i x u hj hu)
    rw [Addr.add_lit, ← Nat.add_assoc] at r1
    exact r1
theorem CellsAt.get {w : World} {B : Nat} {A : Option Addr} {l : List Xb} (h : CellsAt w B A l) (k : Nat) (x : Xb) (hk : l[k]? = some x) : ∃ b off, A = some ⟨b, off, none⟩ ∧ b < B ∧
    w.cell? ⟨b, off + k * 6, none⟩ = some (.string x.nm) ∧ w.cell? ⟨b, off + k * 6 + 1, none⟩ = some (.int .i64 x.tk) ∧ w.cell? ⟨b, off + k * 6 + 2, none⟩ = some (.int .i64 x.tm) ∧ w.cell? ⟨b, off + k * 6 + 3, none⟩ = some (.int .i64 x.k) ∧
    w.cell? ⟨b, off + k * 6 + 4, none⟩ = some (.int .i64 x.n) ∧ w.cell? ⟨b, off + k * 6 + 5, none⟩ = some (.string x.s) := by
  obtain ⟨b, off, rfl, h1, h2⟩ := h (by have := (List.getElem?_eq_some_iff.1 hk).1; omega)
  have := h2 k x hk
  exact ⟨b, off, rfl, h1, this 0 _ rfl, this 1 _ rfl, this 2 _ rfl, this 3 _ rfl, this 4 _ rfl, this 5 _ rfl⟩
theorem infoX : (Tryd.prog.info? 91).map (fun i => (i.zero, i.size, i.bytes)) = some (some (.agg #[.string ByteArray.empty, .int .i64 0, .int .i64 0, .int .i64 0, .int .i64 0, .string ByteArray.empty]), 6, 64) := by kernel_rfl
/-- one cell appended to a row of the call's own, as one step of a region that draws -/
theorem step_append_cell {w : World} {ops : Array Oper} {o : Oper} {a : Act} {K : Act → World → Prop} {Q : Exit → Act → World → Prop} {E : Prop} (hgd : o.guard = none) (s x : Operand)
    (ho : o.op = .call { callee := .builtin .append, args := #[s, x], argTypes := #[56, 56] })
    (base : Nat) (v : Value) (l : List Xb) (y : Xb) (g : Nat)
    (hown : OwnX w base v l) (hs : a.eval s = v) (hx : a.eval x = .slice (some ⟨g, 0, none⟩) 1 1)
    (hcell : w.cell? ⟨g, 0, none⟩ = some (.string y.nm) ∧ w.cell? ⟨g, 1, none⟩ = some (.int .i64 y.tk) ∧ w.cell? ⟨g, 2, none⟩ = some (.int .i64 y.tm) ∧ w.cell? ⟨g, 3, none⟩ = some (.int .i64 y.k) ∧ w.cell? ⟨g, 4, none⟩ = some (.int .i64 y.n) ∧ w.cell? ⟨g, 5, none⟩ = some (.string y.s))
    (hlen : l.length < 1000000) (hbase : base ≤ w.heap.size)
    (h : ∀ v' w', OwnX w' base v' (l ++ [y]) → Below base w w' → K (a.put o.dst v') w') :
    if Region.wanted o (yielded ops a.tmps) = true then Oper.wp Tryd.prog o a w K Q else E := by
  have hw : Region.wanted o (yielded ops a.tmps) = true := by simp [Region.wanted, hgd]
  rw [if_pos hw]
  obtain ⟨i0, hi, hz0, hz1, hz2⟩ := info_parts infoX
  obtain ⟨h0, h1, h2, h3, h4, h5⟩ := hcell
  obtain ⟨v', w', hrun, g1, g2, _⟩ := run_append_own (P := Tryd.prog) w base 56 o.type 91 i0 (.agg #[.string ByteArray.empty, .int .i64 0, .int .i64 0, .int .i64 0, .int .i64 0, .string ByteArray.empty]) 6 64 Tryd.underlying56 hi hz0 hz1 hz2 rfl (by decide) v l.length (PX l) hown ⟨g, 0, none⟩ 1 1 (PX [y]) rfl
    (fun j u hj => by
      match j, hj with
      | 0, hj => simp [PX, fX] at hj; subst hj; simpa [Addr.add] using h0
      | 1, hj => simp [PX, fX] at hj; subst hj; simpa [Addr.add] using h1
      | 2, hj => simp [PX, fX] at hj; subst hj; simpa [Addr.add] using h2
      | 3, hj => simp [PX, fX] at hj; subst hj; simpa [Addr.add] using h3
      | 4, hj => simp [PX, fX] at hj; subst hj; simpa [Addr.add] using h4
      | 5, hj => simp [PX, fX] at hj; subst hj; simpa [Addr.add] using h5
      | j + 6, hj => simp [PX, fX] at hj)
    (fun u hu => by
      simp [PX, fX] at hu
      rcases hu with rfl | rfl | rfl | rfl | rfl | rfl <;> rfl) (by unfold maxLen; omega) (by omega) hbase
  unfold Oper.wp
  simp [execOp, ho, resolve, invoke, builtin, hs, hx, hrun, Result.andThen]
  refine h v' w' ?_ ((Below.refl base w).grown g2 hbase (fun k hk => ((World.ownsRow.lt hown) k hk).1))
  unfold OwnX
  rw [PX_append, List.length_append]
  exact g1
set_option maxRecDepth 100000 in
set_option maxHeartbeats 1600000 in
theorem rsamex_any (A A2 : Option Addr) (cp cp2 : Nat) (a : List Xb) (w : World) (hA : CellsAt w w.heap.size A a) (hA2 : CellsAt w w.heap.size A2 a) (hl : a.length ≤ 1000000) :
    Calls Tryd.prog 35 #[.slice A a.length cp, .slice A2 a.length cp2] w fun e w' => e = .returned (.bool true) ∧ Below w.heap.size w w' := by
  have HA := Lib.hid hA; clear hA
  have HA2 := Lib.hid hA2; clear hA2
  go_enter Tryd.func35, Tryd.ntmps35
  go_wp2_with fail
  go_loopw [5] (fun i wr => ∃ k : Nat, k ≤ a.length ∧ i = .int .i64 k ∧ Hid (Below w.heap.size w wr)) (fun i _ => a.length - (intOf i).toNat)
  case atStart => exact ⟨0, by omega, rfl, Below.refl _ _⟩
  case round =>
    obtain ⟨k, hk, rfl, hb⟩ := hrel
    by_cases hlt : k < a.length
    · obtain ⟨x, hx⟩ : ∃ x, a[k]? = some x := ⟨a[k], by simp [hlt]⟩
      obtain ⟨b1, off, rfl, hbB, c0, c1, c2, c3, c4, c5⟩ := CellsAt.get (RowAt.below HA.out hb.out) k x hx
      obtain ⟨b2, off2, rfl, hbB2, d0, d1, d2, d3, d4, d5⟩ := CellsAt.get (RowAt.below HA2.out hb.out) k x hx
      have hne : Nonempty (BelowBy wr.heap.size wr) := ⟨⟨wr, Below.refl _ _⟩⟩
      have X0 : ∀ p : BelowBy wr.heap.size wr, p.x.cell? ⟨b1, off + k * 6, none⟩ = some (.string x.nm) := fun p => (p.h.cell (by have := hb.out.size; simp; omega)).trans c0
      have X1 : ∀ p : BelowBy wr.heap.size wr, p.x.cell? ⟨b1, off + k * 6 + 1, none⟩ = some (.int .i64 x.tk) := fun p => (p.h.cell (by have := hb.out.size; simp; omega)).trans c1
      have X2 : ∀ p : BelowBy wr.heap.size wr, p.x.cell? ⟨b1, off + k * 6 + 2, none⟩ = some (.int .i64 x.tm) := fun p => (p.h.cell (by have := hb.out.size; simp; omega)).trans c2
      have X3 : ∀ p : BelowBy wr.heap.size wr, p.x.cell? ⟨b1, off + k * 6 + 3, none⟩ = some (.int .i64 x.k) := fun p => (p.h.cell (by have := hb.out.size; simp; omega)).trans c3
      have X4 : ∀ p : BelowBy wr.heap.size wr, p.x.cell? ⟨b1, off + k * 6 + 4, none⟩ = some (.int .i64 x.n) := fun p => (p.h.cell (by have := hb.out.size; simp; omega)).trans c4
      have X5 : ∀ p : BelowBy wr.heap.size wr, p.x.cell? ⟨b1, off + k * 6 + 5, none⟩ = some (.string x.s) := fun p => (p.h.cell (by have := hb.out.size; simp; omega)).trans c5
      have Y0 : ∀ p : BelowBy wr.heap.size wr, p.x.cell? ⟨b2, off2 + k * 6, none⟩ = some (.string x.nm) := fun p => (p.h.cell (by have := hb.out.size; simp; omega)).trans d0
      have Y1 : ∀ p : BelowBy wr.heap.size wr, p.x.cell? ⟨b2, off2 + k * 6 + 1, none⟩ = some (.int .i64 x.tk) := fun p => (p.h.cell (by have := hb.out.size; simp; omega)).trans d1
      have Y2 : ∀ p : BelowBy wr.heap.size wr, p.x.cell? ⟨b2, off2 + k * 6 + 2, none⟩ = some (.int .i64 x.tm) := fun p => (p.h.cell (by have := hb.out.size; simp; omega)).trans d2
      have Y3 : ∀ p : BelowBy wr.heap.size wr, p.x.cell? ⟨b2, off2 + k * 6 + 3, none⟩ = some (.int .i64 x.k) := fun p => (p.h.cell (by have := hb.out.size; simp; omega)).trans d3
      have Y4 : ∀ p : BelowBy wr.heap.size wr, p.x.cell? ⟨b2, off2 + k * 6 + 4, none⟩ = some (.int .i64 x.n) := fun p => (p.h.cell (by have := hb.out.size; simp; omega)).trans d4
      have Y5 : ∀ p : BelowBy wr.heap.size wr, p.x.cell? ⟨b2, off2 + k * 6 + 5, none⟩ = some (.string x.s) := fun p => (p.h.cell (by have := hb.out.size; simp; omega)).trans d5
      have q : ∀ w, (binOp .neq 91 (XV x) (XV x)).run Tryd.prog w = .ok (.bool (!eqX x x)) w := fun w => run_neq_X w x x
      rw [eqX_self] at q
      have hk0 : (0 : Int) ≤ (k : Int) := by omega
      clear hx c0 c1 c2 c3 c4 c5 d0 d1 d2 d3 d4 d5
      go_wp2_with fail
      refine wp_region_below wr.heap.size (by kernel_rfl) (by kernel_rfl) ?_
      repeat (
        with_reducible refine wpQuiet_step (fun K hK => ?_)
        go_simp
        refine hK _ ?_
        clear hK K)
      refine wpQuiet_nil ?_
      rintro _ ⟨p, rfl⟩
      go_wp2_with fail
      go_roundw
      case rel => exact ⟨k + 1, by omega, by go_num, bthen hb.out p.h⟩
      case measure => simp [intOf]; omega
    · go_wp2_with fail
      go_ret
      exact ⟨rfl, hb.out⟩
end Go.Proofs.YtmcgcanpaffggaaDoor
