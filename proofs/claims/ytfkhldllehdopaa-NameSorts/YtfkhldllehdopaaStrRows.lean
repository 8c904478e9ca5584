/-
  Rows of strings that a call makes by itself, and slices of strings that lie somewhere.
-/
import Derived.Test.YtfkhldllehdopaaBytes
import Derived.Test.YtfkhldllehdopaaInts
import Derived.Laws.OwnMore
namespace Go.Proofs.Ytfkhldllehdopaa
open Go.RowKit

theorem infoStr : (Try.prog.info? 9).map (fun i => (i.zero, i.size, i.bytes)) = some (some (.string ByteArray.empty), 1, 16) := by kernel_rfl
/-- strings as cells -/
def SV (l : List ByteArray) : List Value := l.map fun s => Value.string s
theorem SV_append (a b : List ByteArray) : SV (a ++ b) = SV a ++ SV b := List.map_append
theorem SV_length (a : List ByteArray) : (SV a).length = a.length := List.length_map _
/-- the slice value v is a row of the call's own, from block base on, and holds the strings l -/
def OwnS (w : World) (base : Nat) (v : Value) (l : List ByteArray) : Prop := w.ownsRow base 9 1 v l.length (SV l)
theorem OwnS.nil (w : World) (base : Nat) : OwnS w base (.slice none 0 0) [] := World.ownsRow_nil _ _ _ _
theorem OwnS.below {w w' : World} {base : Nat} {v : Value} {l : List ByteArray} (h : OwnS w base v l) (hb : Below w.heap.size w w') : OwnS w' base v l := owns_below h hb
theorem OwnS.alloc {w : World} {base : Nat} {v : Value} {l : List ByteArray} (h : OwnS w base v l) (o : Obj) : OwnS (w.alloc o) base v l := World.ownsRow.alloc h o
theorem OwnS.mono {w : World} {base base' : Nat} {v : Value} {l : List ByteArray} (h : OwnS w base v l) (hb : base' ≤ base) : OwnS w base' v l := by
  refine ⟨h.1, ?_⟩
  rcases h.2 with ⟨h1, h2⟩ | ⟨g, cap, cur, h1, h2, h3⟩
  · exact .inl ⟨h1, h2⟩
  · exact .inr ⟨g, cap, cur, h1, Nat.le_trans hb h2, h3⟩
theorem OwnS.form {w : World} {base : Nat} {v : Value} {l : List ByteArray} (h : OwnS w base v l) : (v = .slice none 0 0 ∧ l = []) ∨ ∃ g cap, v = .slice (some ⟨g, 0, none⟩) l.length cap ∧ base ≤ g ∧ g < w.heap.size ∧ l.length ≤ cap ∧ ∀ j (hj : j < l.length), w.cell? ⟨g, j, none⟩ = some (.string l[j]) := by
  rcases h.2 with ⟨h1, h2⟩ | ⟨g, cap, cur, h1, h2, h3, h4⟩
  · exact .inl ⟨h1, List.eq_nil_of_length_eq_zero h2⟩
  · refine .inr ⟨g, cap, h1, h2, (Array.getElem?_eq_some_iff.1 h3).1, h4.1, fun j hj => ?_⟩
    subst h1
    have := World.ownsRow.cells h (g := g) rfl j (.string l[j]) (by simp [SV, hj])
    simpa [Addr.add_lit] using this

/-- a slice of strings that lies below block B -/
def StrsAt (w : World) (B : Nat) (A : Option Addr) (ss : List ByteArray) : Prop :=
  0 < ss.length → ∃ b off, A = some ⟨b, off, none⟩ ∧ b < B ∧ ∀ j (hj : j < ss.length), w.cell? ⟨b, off + j, none⟩ = some (.string ss[j])
theorem StrsAt.of_own {w : World} {base : Nat} {v : Value} {ss : List ByteArray} (h : OwnS w base v ss) : ∃ A c, v = .slice A ss.length c ∧ StrsAt w w.heap.size A ss := by
  rcases h.form with ⟨rfl, rfl⟩ | ⟨g, cap, rfl, _, hg, _, hc⟩
  · exact ⟨none, 0, rfl, fun hp => absurd hp (by simp)⟩
  · exact ⟨some ⟨g, 0, none⟩, cap, rfl, fun _ => ⟨g, 0, rfl, hg, fun j hj => by rw [Nat.zero_add]; exact hc j hj⟩⟩
theorem StrsAt.of_own1 {w : World} {base : Nat} {A : Option Addr} {c : Nat} {ss : List ByteArray} (h : OwnS w base (.slice A ss.length c) ss) : StrsAt w w.heap.size A ss := by
  obtain ⟨A', c', h1, h2⟩ := StrsAt.of_own h
  cases h1
  exact h2
theorem StrsAt.below {w w' : World} {B : Nat} {A : Option Addr} {ss : List ByteArray} (h : StrsAt w B A ss) (hb : Below B w w') : StrsAt w' B A ss := fun hl => by
  obtain ⟨b, off, rfl, h1, h2⟩ := h hl
  exact ⟨b, off, rfl, h1, fun j hj => (hb.cell (p := ⟨b, off + j, none⟩) h1).trans (h2 j hj)⟩
theorem StrsAt.more {w : World} {B B' : Nat} {A : Option Addr} {ss : List ByteArray} (h : StrsAt w B A ss) (hB : B ≤ B') : StrsAt w B' A ss := fun hl => by
  obtain ⟨b, off, rfl, h1, h2⟩ := h hl
  exact ⟨b, off, rfl, by omega, h2⟩
theorem StrsAt.take {w : World} {B : Nat} {A : Option Addr} {ss : List ByteArray} (h : StrsAt w B A ss) (n : Nat) : StrsAt w B A (ss.take n) := fun hl => by
  obtain ⟨b, off, rfl, h1, h2⟩ := h (by simp at hl; omega)
  refine ⟨b, off, rfl, h1, fun j hj => ?_⟩
  simp at hj
  rw [List.getElem_take]
  exact h2 j (by omega)

/-- strings come in -/
def StrsIn (w : World) (a : Option Addr) (len cap : Nat) (ss : List ByteArray) : Prop :=
  (a = none ∧ len = 0 ∧ cap = 0 ∧ ss = []) ∨
  ∃ x, a = some x ∧ len ≤ cap ∧ cap ≤ maxLen ∧ ss.length = cap ∧ (∀ i, i < ss.length → w.cell? (x.add i) = some (.string (ss.getD i ByteArray.empty))) ∧ ∀ s ∈ ss, s.size ≤ maxLen
theorem strs_of {w : World} {a : Option Addr} {len cap : Nat} {ss : List ByteArray} (h : StrsIn w a len cap ss) :
    ∃ zs : List ByteArray, zs.length = len ∧ StrsAt w w.heap.size a zs ∧ (∀ s ∈ zs, s.size ≤ maxLen) ∧ len ≤ maxLen := by
  rcases h with ⟨rfl, rfl, rfl, rfl⟩ | ⟨x, rfl, h1, h2, h3, h4, h5⟩
  · exact ⟨[], rfl, fun h => absurd h (by simp), by simp, Nat.zero_le _⟩
  · refine ⟨ss.take len, by simp; omega, fun h => ?_, fun s hs => h5 s (List.mem_of_mem_take hs), by omega⟩
    simp at h
    obtain ⟨b, off, sp⟩ := x
    obtain rfl : sp = none := by simpa [Addr.add] using World.cell?_spot (h4 0 (by omega))
    have h0 := h4 0 (by omega)
    rw [Addr.add_lit] at h0
    refine ⟨b, off, rfl, World.block_lt_of_cell? w ⟨b, off + 0, none⟩ h0, fun j hj => ?_⟩
    simp at hj
    have := h4 j (by omega)
    rw [List.getElem_take]
    rw [Addr.add_lit, List.getD_eq_getElem?_getD, List.getElem?_eq_getElem (by omega)] at this
    exact this

/-- strings that lie somewhere appended to a row of the call's own, as one step of a region that draws -/
theorem step_append_strs {w : World} {ops : Array Oper} {o : Oper} {a : Act} {K : Act → World → Prop} {Q : Exit → Act → World → Prop} {E : Prop} (hgd : o.guard = none) (s x : Operand)
    (ho : o.op = .call { callee := .builtin .append, args := #[s, x], argTypes := #[27, 27] })
    (base : Nat) (v : Value) (l : List ByteArray) (A : Option Addr) (m c : Nat) (ts : List ByteArray)
    (hown : OwnS w base v l) (hs : a.eval s = v) (hx : a.eval x = .slice A m c) (hm : m = ts.length) (hA : A = none → c = 0) (hts : StrsAt w w.heap.size A ts) (hlen : l.length + ts.length < 1099511627776) (hbase : base ≤ w.heap.size)
    (h : ∀ v' w', OwnS w' base v' (l ++ ts) → w.grownBy w' v.ownBlock → K (a.put o.dst v') w') :
    if Region.wanted o (yielded ops a.tmps) = true then Oper.wp Try.prog o a w K Q else E := by
  subst hm
  have hw : Region.wanted o (yielded ops a.tmps) = true := by simp [Region.wanted, hgd]
  rw [if_pos hw]
  obtain ⟨i0, hi, hz0, hz1, hz2⟩ := info_parts infoStr
  obtain ⟨v', w', hrun, h1, h2⟩ : ∃ v' w', (Builtin.append_ #[27, 27] o.type #[v, .slice A ts.length c]).run Try.prog w = .ok v' w' ∧ OwnS w' base v' (l ++ ts) ∧ w.grownBy w' v.ownBlock := by
    cases A with
    | none =>
      have hl : ts = [] := by
        cases ts with
        | nil => rfl
        | cons y r =>
          obtain ⟨_, _, h3, _⟩ := hts (by simp)
          cases h3
      subst hl
      obtain rfl := hA rfl
      refine ⟨v, w, run_append_owned_none w base 27 o.type 9 i0 1 Try.underlying27 hi v l.length (SV l) hown, by rw [List.append_nil]; exact hown, ⟨rfl, rfl, rfl, Nat.le_refl _, fun _ _ _ => rfl⟩⟩
    | some ad =>
      obtain ⟨v', w', hrun, h1, h2, _⟩ := run_append_own (P := Try.prog) w base 27 o.type 9 i0 (.string ByteArray.empty) 1 16 Try.underlying27 hi hz0 hz1 hz2 rfl (by decide) v l.length (SV l) hown ad ts.length c (SV ts) (by rw [SV_length, Nat.mul_one])
        (fun j u hj => by
          simp only [SV, List.getElem?_map, Option.map_eq_some_iff] at hj
          obtain ⟨y, hy, rfl⟩ := hj
          obtain ⟨hj, rfl⟩ := List.getElem?_eq_some_iff.1 hy
          obtain ⟨b, off, h3, h4, h5⟩ := hts (by omega)
          cases h3
          rw [Addr.add_lit]
          exact h5 j hj)
        (fun u hu => by
          simp only [SV, List.mem_map] at hu
          obtain ⟨y, _, rfl⟩ := hu
          rfl) (by unfold maxLen; omega) (by omega) hbase
      refine ⟨v', w', hrun, ?_, h2⟩
      unfold OwnS
      rw [SV_append, List.length_append]
      exact h1
  unfold Oper.wp
  simp [execOp, ho, resolve, invoke, builtin, hs, hx, hrun, Result.andThen]
  exact h v' w' h1 h2
/-- a literal row without elements, with another block made behind it or ahead of it -/
theorem own0_a (w : World) : OwnS (w.alloc (.cells #[] 9)).drew w.heap.size (.slice (some ⟨w.heap.size, 0, none⟩) 0 0) [] := World.ownsRow_lit w #[] 0 (Nat.le_refl _) (Nat.zero_le _) rfl
theorem own0_d (w : World) (o : Obj) : OwnS ((w.alloc (.cells #[] 9)).alloc o).drew w.heap.size (.slice (some ⟨w.heap.size, 0, none⟩) 0 0) [] := World.ownsRow.alloc (World.ownsRow_lit w #[] 0 (Nat.le_refl _) (Nat.zero_le _) rfl) o
theorem own0_f (w : World) (o : Obj) : OwnS ((w.alloc o).alloc (.cells #[] 9)).drew w.heap.size (.slice (some ⟨w.heap.size + 1, 0, none⟩) 0 0) [] := by
  have h := World.ownsRow_lit (base := w.heap.size) (e := 9) (size := 1) (w.alloc o) #[] 0 (by simp) (Nat.zero_le _) rfl
  rw [show (w.alloc o).heap.size = w.heap.size + 1 by simp] at h
  exact h
theorem below_grown {B base : Nat} {a w w' : World} {v : Value} {l : List ByteArray} (h : Below B a w) (ho : OwnS w base v l) (hg : w.grownBy w' v.ownBlock) (hB : B ≤ base) (hs : B ≤ w.heap.size) : Below B a w' :=
  h.grown hg hs (fun k hk => Nat.le_trans hB ((World.ownsRow.lt ho) k hk).1)
theorem cell_grownBy {w w' : World} {r : Option Nat} (hg : w.grownBy w' r) (p : Addr) (hp : p.block < w.heap.size) (hn : some p.block ≠ r) : w'.cell? p = w.cell? p := World.cell?_of_block (hg.block p.block hp hn)
theorem strs_one {w : World} {b1 : Nat} {x : ByteArray} (hc : w.cell? ⟨b1, 0, none⟩ = some (.string x)) : StrsAt w w.heap.size (some ⟨b1, 0, none⟩) [x] := fun _ =>
  ⟨b1, 0, rfl, World.block_lt_of_cell? w ⟨b1, 0, none⟩ hc, fun j hj => by
    obtain rfl : j = 0 := by simp at hj; omega
    exact hc⟩
theorem StrsAt.drop {w : World} {B g o : Nat} {ss : List ByteArray} (h : StrsAt w B (some ⟨g, o, none⟩) ss) (n : Nat) : StrsAt w B (some ⟨g, o + n, none⟩) (ss.drop n) := fun hl => by
  simp at hl
  obtain ⟨b, off, he, h1, h2⟩ := h (by omega)
  cases he
  refine ⟨g, o + n, rfl, h1, fun j hj => ?_⟩
  simp at hj
  rw [List.getElem_drop, Nat.add_assoc]
  exact h2 (n + j) (by omega)
theorem StrsAt.to {w w' : World} {A : Option Addr} {ss : List ByteArray} (h : StrsAt w w.heap.size A ss) (hb : Below w.heap.size w w') : StrsAt w' w'.heap.size A ss := (h.below hb).more hb.size
end Go.Proofs.Ytfkhldllehdopaa
