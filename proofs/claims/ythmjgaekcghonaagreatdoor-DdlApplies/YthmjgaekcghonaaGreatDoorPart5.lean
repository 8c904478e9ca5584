/-
  Texts that the proof needs, one behind the other: DdlRows, DdlOpen, SchColC, SchRefC, DdlSmallC, DdlLibC, DdlCloneC, DdlAcolC.
-/
import Derived.Lib.SliceRun
import Derived.Laws.IdiomCopy
import Derived.Deep.RegionLaw
import Derived.WalkKit
import Derived.Test.YthmjgaekcghonaaGreatDoorPart1
import Derived.Test.YthmjgaekcghonaaGreatDoorPart2
import Derived.Test.YthmjgaekcghonaaGreatDoorPart3
import Derived.Test.YthmjgaekcghonaaGreatDoorPart4

/-
  Rows of structs of the call's own (any size), worlds alike but for some blocks, catalogs of the call's own; a change in memory.
-/
namespace Go.Proofs.YthmjgaekcghonaaGreatDoor
open Go.RowKit

/-! ### Worlds alike but for some blocks -/
structure Off (S : Nat → Prop) (w w' : World) : Prop where
  os : w'.os = w.os
  tape : w'.tape = w.tape
  output : w'.output = w.output
  size : w.heap.size ≤ w'.heap.size
  block : ∀ k, k < w.heap.size → ¬ S k → w'.heap[k]? = w.heap[k]?
theorem Off.refl (S : Nat → Prop) (w : World) : Off S w w := ⟨rfl, rfl, rfl, Nat.le_refl _, fun _ _ _ => rfl⟩
theorem Off.trans {S : Nat → Prop} {a b c : World} (h : Off S a b) (k : Off S b c) : Off S a c :=
  ⟨k.os.trans h.os, k.tape.trans h.tape, k.output.trans h.output, Nat.le_trans h.size k.size, fun i hi hn => (k.block i (Nat.lt_of_lt_of_le hi h.size) hn).trans (h.block i hi hn)⟩
theorem Off.of_below {S : Nat → Prop} {w w' : World} (h : Below w.heap.size w w') : Off S w w' := ⟨h.os, h.tape, h.output, h.size, fun k hk _ => h.block k hk⟩
theorem Off.of_grown {w w' : World} {row : Option Nat} (h : w.grownBy w' row) : Off (fun k => row = some k) w w' := ⟨h.os, h.tape, h.output, h.size, fun k hk hn => h.block k hk (fun e => hn e.symm)⟩
theorem Off.mono {S S' : Nat → Prop} {w w' : World} (h : Off S w w') (hs : ∀ k, k < w.heap.size → S k → S' k) : Off S' w w' := ⟨h.os, h.tape, h.output, h.size, fun k hk hn => h.block k hk (fun e => hn (hs k hk e))⟩
theorem Off.below {S : Nat → Prop} {w w' : World} {B : Nat} (h : Off S w w') (hS : ∀ k, k < w.heap.size → S k → B ≤ k) (hB : B ≤ w.heap.size) : Below B w w' :=
  ⟨h.os, h.tape, h.output, h.size, fun k hk => h.block k (Nat.lt_of_lt_of_le hk hB) (fun e => absurd (hS k (Nat.lt_of_lt_of_le hk hB) e) (by omega))⟩
theorem Off.cell {S : Nat → Prop} {w w' : World} (h : Off S w w') {p : Addr} (hp : p.block < w.heap.size) (hn : ¬ S p.block) : w'.cell? p = w.cell? p := World.cell?_of_block (h.block p.block hp hn)
theorem Off.keep {S : Nat → Prop} {w w' : World} (h : Off S w w') {p : Addr} {v : Value} (hv : w.cell? p = some v) (hn : ¬ S p.block) : w'.cell? p = some v := (h.cell (World.block_lt_of_cell? w p hv) hn).trans hv
theorem Off.then {S : Nat → Prop} {a b c : World} (h : Off S a b) (k : Below b.heap.size b c) : Off S a c := h.trans (.of_below k)
theorem Off.behind {S : Nat → Prop} {a b c : World} (h : Below a.heap.size a b) (k : Off S b c) : Off S a c := (Off.of_below h).trans k
theorem Off.set (w : World) (g j : Nat) (v : Value) : Off (fun k => k = g) w (w.setCell ⟨g, j, none⟩ v) :=
  ⟨rfl, rfl, rfl, by simp, fun k _ hk => heap_setCell_other w ⟨g, j, none⟩ k v (fun e => hk (by simp [e]))⟩

/-! ### Rows of structs, flt -/
def flt {α : Type} (f : α → List Value) : List α → List Value
  | [] => []
  | x :: r => f x ++ flt f r
theorem flat_append {α : Type} (f : α → List Value) : ∀ a b : List α, flt f (a ++ b) = flt f a ++ flt f b
  | [], b => rfl
  | x :: r, b => by simp [flt, flat_append f r b]
theorem flat_length {α : Type} {f : α → List Value} {m : Nat} (hm : ∀ x, (f x).length = m) : ∀ l : List α, (flt f l).length = l.length * m
  | [] => by simp [flt]
  | x :: r => by simp [flt, hm, flat_length hm r, Nat.add_mul]; omega
theorem flat_get {α : Type} {f : α → List Value} {m : Nat} (hm : ∀ x, (f x).length = m) : ∀ (l : List α) (j : Nat) (x : α) (i : Nat) (v : Value), l[j]? = some x → (f x)[i]? = some v → (flt f l)[j * m + i]? = some v
  | [], j, x, i, v, h, _ => by simp at h
  | y :: r, 0, x, i, v, h, hv => by
    simp at h; subst h
    have hi := (List.getElem?_eq_some_iff.1 hv).1
    simp only [flt, Nat.zero_mul, Nat.zero_add]
    rw [List.getElem?_append_left hi]; exact hv
  | y :: r, j + 1, x, i, v, h, hv => by
    simp only [flt]
    rw [List.getElem?_append_right (by rw [hm, Nat.add_mul]; omega), hm, show (j + 1) * m + i - m = j * m + i by rw [Nat.add_mul]; omega]
    exact flat_get hm r j x i v (by simpa using h) hv
theorem flat_all {α : Type} {f : α → List Value} {m : Nat} (hm : ∀ x, (f x).length = m) {Q : Nat → Value → Prop} : ∀ (l : List α), (∀ j x i v, l[j]? = some x → (f x)[i]? = some v → Q (j * m + i) v) → ∀ p u, (flt f l)[p]? = some u → Q p u
  | [], _, p, u, h => by simp [flt] at h
  | y :: r, hq, p, u, h => by
    simp only [flt] at h
    by_cases hp : p < m
    · rw [List.getElem?_append_left (by rw [hm]; exact hp)] at h
      have := hq 0 y p u rfl h
      simpa using this
    · rw [List.getElem?_append_right (by rw [hm]; omega), hm] at h
      have := flat_all hm (Q := fun p u => Q (p + m) u) r (fun j x i v h1 h2 => by
        have := hq (j + 1) x i v (by simpa using h1) h2
        rwa [show (j + 1) * m + i = j * m + i + m by rw [Nat.add_mul]; omega] at this) (p - m) u h
      rwa [show p - m + m = p by omega] at this
theorem flat_set {α : Type} {f : α → List Value} {m : Nat} (hm : ∀ x, (f x).length = m) : ∀ (l : List α) (k : Nat) (x y : α) (i : Nat) (v : Value), l[k]? = some x → i < m → f y = (f x).set i v → flt f (l.set k y) = (flt f l).set (k * m + i) v
  | [], k, x, y, i, v, h, _, _ => by simp at h
  | a :: r, 0, x, y, i, v, h, hi, hy => by
    simp at h; subst h
    simp only [List.set_cons_zero, flt, Nat.zero_mul, Nat.zero_add]
    rw [List.set_append_left _ _ (by rw [hm]; exact hi), hy]
  | a :: r, k + 1, x, y, i, v, h, hi, hy => by
    simp only [List.set_cons_succ, flt]
    rw [List.set_append_right _ _ (by rw [hm, Nat.add_mul]; omega), hm, show (k + 1) * m + i - m = k * m + i by rw [Nat.add_mul]; omega]
    rw [flat_set hm r k x y i v (by simpa using h) hi hy]
theorem flt_take {α : Type} {f : α → List Value} {m : Nat} (hm : ∀ x, (f x).length = m) : ∀ (l : List α) (k : Nat), (flt f l).take (k * m) = flt f (l.take k)
  | [], k => by simp [flt]
  | a :: r, 0 => by simp [flt]
  | a :: r, k + 1 => by
    simp only [flt, List.take_succ_cons]
    rw [List.take_append, hm, List.take_of_length_le (by rw [hm, Nat.add_mul]; omega), show (k + 1) * m - m = k * m by rw [Nat.add_mul]; omega, flt_take hm r k]
theorem flat_drop {α : Type} {f : α → List Value} {m : Nat} (hm : ∀ x, (f x).length = m) : ∀ (l : List α) (k : Nat), (flt f l).drop (k * m) = flt f (l.drop k)
  | [], k => by simp [flt]
  | a :: r, 0 => by simp [flt]
  | a :: r, k + 1 => by
    simp only [flt, List.drop_succ_cons]
    rw [List.drop_append, hm, List.drop_eq_nil_of_le (by rw [hm, Nat.add_mul]; omega), show (k + 1) * m - m = k * m by rw [Nat.add_mul]; omega, flat_drop hm r k, List.nil_append]
theorem flat_mem {α : Type} {f : α → List Value} {Q : Value → Prop} (h : ∀ x, ∀ v ∈ f x, Q v) : ∀ (l : List α), ∀ v ∈ flt f l, Q v
  | [], v, hv => by simp [flt] at hv
  | a :: r, v, hv => by
    rcases List.mem_append.1 hv with h1 | h1
    · exact h a v h1
    · exact flat_mem h r v h1
theorem lenC (c : Cb) : (fC c).length = 8 := rfl
theorem lenT (t : Tb) : (fT t).length = 5 := rfl
theorem oneC : ∀ c : Cb, ∀ v ∈ fC c, v.oneCell' = true := fun c v hv => by
  simp [fC] at hv
  rcases hv with h | h | h | h | h | h | h | h <;> (subst h; rfl)
theorem oneT : ∀ t : Tb, ∀ v ∈ fT t, v.oneCell' = true := fun t v hv => by
  simp [fT] at hv
  rcases hv with h | h | h | h | h <;> (subst h; rfl)

/-! ### Rows of the call's own -/
def OwnR {α : Type} (T : TypeId) (m : Nat) (f : α → List Value) (w : World) (base : Nat) (v : Value) (l : List α) : Prop := w.ownsRow base T m v l.length (flt f l)
abbrev OwnC (w : World) (base : Nat) (v : Value) (l : List Cb) : Prop := OwnR 63 8 fC w base v l
abbrev OwnTb (w : World) (base : Nat) (v : Value) (l : List Tb) : Prop := OwnR 51 5 fT w base v l
section
variable {α : Type} {T : TypeId} {m : Nat} {f : α → List Value} {w w' : World} {base : Nat} {v : Value} {l : List α}
theorem OwnR.nil (T : TypeId) (m : Nat) (f : α → List Value) (w : World) (base : Nat) : OwnR T m f w base (.slice none 0 0) [] := World.ownsRow_nil _ _ _ _
theorem OwnR.below (h : OwnR T m f w base v l) (hb : Below w.heap.size w w') : OwnR T m f w' base v l := owns_below h hb
theorem OwnR.lt (h : OwnR T m f w base v l) : ∀ k, v.ownBlock = some k → base ≤ k ∧ k < w.heap.size := World.ownsRow.lt h
theorem OwnR.off {S : Nat → Prop} (h : OwnR T m f w base v l) (hw : Off S w w') (hn : ∀ k, v.ownBlock = some k → ¬ S k) : OwnR T m f w' base v l := by
  refine ⟨h.1, ?_⟩
  rcases h.2 with hn' | ⟨g, cap, cur, rfl, hb, hg, rest⟩
  · exact .inl hn'
  · exact .inr ⟨g, cap, cur, rfl, hb, (hw.block g (Array.getElem?_eq_some_iff.1 hg).1 (hn g rfl)).trans hg, rest⟩
theorem OwnR.mono {base' : Nat} (h : OwnR T m f w base v l) (hb : base' ≤ base) : OwnR T m f w base' v l :=
  ⟨h.1, h.2.imp id fun ⟨g, cap, cur, h1, h2, h3⟩ => ⟨g, cap, cur, h1, Nat.le_trans hb h2, h3⟩⟩
/-- the base raised, where the block allows it -/
theorem OwnR.raise {base' : Nat} (h : OwnR T m f w base v l) (hb : ∀ k, v.ownBlock = some k → base' ≤ k) : OwnR T m f w base' v l :=
  ⟨h.1, h.2.imp id fun ⟨g, cap, cur, h1, _, h3⟩ => ⟨g, cap, cur, h1, hb g (by rw [h1]; rfl), h3⟩⟩
theorem OwnR.form (h : OwnR T m f w base v l) : ∃ A cap, v = .slice A l.length cap ∧ l.length ≤ cap ∧ cap ≤ maxLen ∧ (A = none → cap = 0) := by
  rcases h.2 with ⟨rfl, h0⟩ | ⟨g, cap, cur, rfl, hb, hg, hc, hm, _⟩
  · exact ⟨none, 0, by rw [h0], by omega, by simp, fun _ => rfl⟩
  · exact ⟨_, cap, rfl, hc, hm, fun e => by cases e⟩
theorem OwnR.shape (h : OwnR T m f w base v l) (hl : 0 < l.length) : ∃ g cap, v = .slice (some ⟨g, 0, none⟩) l.length cap ∧ base ≤ g ∧ g < w.heap.size ∧ l.length ≤ cap ∧ cap ≤ maxLen := by
  rcases h.2 with ⟨_, h0⟩ | ⟨g, cap, cur, rfl, hb, hg, hc, hm, _⟩
  · omega
  · exact ⟨g, cap, rfl, hb, (Array.getElem?_eq_some_iff.1 hg).1, hc, hm⟩
theorem OwnR.at {A : Option Addr} {n cap : Nat} (hm : ∀ x, (f x).length = m) (h : OwnR T m f w base (.slice A n cap) l) : RowAt m f w w.heap.size A l := fun hl => by
  obtain ⟨g, cap', e, hb, hg, _⟩ := h.shape hl
  cases e
  refine ⟨g, 0, rfl, hg, fun j x hj i v hv => ?_⟩
  have := World.ownsRow.cells h (g := g) rfl (j * m + i) v (flat_get hm l j x i v hj hv)
  rw [Addr.add_lit] at this
  rw [← this]; congr 2; omega
theorem OwnR.cell {g cap : Nat} (hm : ∀ x, (f x).length = m) (h : OwnR T m f w base (.slice (some ⟨g, 0, none⟩) l.length cap) l) {k i : Nat} {x : α} {u : Value} (hk : l[k]? = some x) (hi : (f x)[i]? = some u) : w.cell? ⟨g, k * m + i, none⟩ = some u := by
  have hkl := (List.getElem?_eq_some_iff.1 hk).1
  have := h.at hm (by omega)
  obtain ⟨b, off, e, _, hc⟩ := this
  cases e
  have := hc k x hk i u hi
  rwa [Nat.zero_add] at this
theorem OwnR.frozen {g cap : Nat} (h : OwnR T m f w base (.slice (some ⟨g, 0, none⟩) l.length cap) l) (j : Nat) : w.frozen? ⟨g, j, none⟩ = false := World.ownsRow.frozenAt h j
/-- one cell stored -/
theorem OwnR.set1 {g cap : Nat} (hm : ∀ x, (f x).length = m) (h : OwnR T m f w base (.slice (some ⟨g, 0, none⟩) l.length cap) l) {k i : Nat} {x y : α} {u : Value} (hk : l[k]? = some x) (hi : i < m) (hy : f y = (f x).set i u) :
    OwnR T m f (w.setCell ⟨g, k * m + i, none⟩ u) base (.slice (some ⟨g, 0, none⟩) l.length cap) (l.set k y) := by
  unfold OwnR
  rw [List.length_set, flat_set hm l k x y i u hk hi hy]
  exact (World.ownsRow.stored h (k * m + i) u).1
theorem run_append_rows {ts : TypeId} {z : Value} {by_ : Nat} (hts : Tryz.prog.underlying ts = some (.slice T)) (hinfo : (Tryz.prog.info? T).map (fun i => (i.zero, i.size, i.bytes)) = some (some z, m, by_)) (hzs : z.cells.size = m) (h0 : 0 < m) (hby : by_ ≤ 128)
    (hm : ∀ x, (f x).length = m) (h1 : ∀ x, ∀ v ∈ f x, v.oneCell' = true) (ty : TypeId) (A : Option Addr) (c : Nat) (vs : List α) (hown : OwnR T m f w base v l) (hA : A = none → c = 0) (hvs : RowAt m f w w.heap.size A vs)
    (hlen : l.length + vs.length ≤ 2000000) (hbase : base ≤ w.heap.size) :
    ∃ v' w', (Builtin.append_ #[ts, ts] ty #[v, .slice A vs.length c]).run Tryz.prog w = .ok v' w' ∧ OwnR T m f w' base v' (l ++ vs) ∧ w.grownBy w' v.ownBlock := by
  obtain ⟨i0, hi, hz0, hz1, hz2⟩ := info_parts hinfo
  cases A with
  | none =>
    have hl : vs = [] := by
      cases vs with
      | nil => rfl
      | cons y r =>
        obtain ⟨_, _, h3, _⟩ := hvs (by simp)
        cases h3
    subst hl
    obtain rfl := hA rfl
    exact ⟨v, w, run_append_owned_none w base ts ty T i0 m hts hi v l.length (flt f l) hown, by rw [List.append_nil]; exact hown, ⟨rfl, rfl, rfl, Nat.le_refl _, fun _ _ _ => rfl⟩⟩
  | some ad =>
    obtain ⟨v', w', hrun, h2, h3, _⟩ := run_append_own (P := Tryz.prog) w base ts ty T i0 z m by_ hts hi hz0 hz1 hz2 hzs h0 v l.length (flt f l) hown ad vs.length c (flt f vs) (flat_length hm vs)
      (flat_all hm vs fun j x i u hj hu => by
        obtain ⟨b, off, h3, _, h5⟩ := hvs (by have := (List.getElem?_eq_some_iff.1 hj).1; omega)
        cases h3
        have := h5 j x hj i u hu
        simp only [Addr.add_lit, ← Nat.add_assoc]
        exact this)
      (flat_mem h1 vs) (by unfold maxLen; omega) (by
        have : (l.length + vs.length) * by_ ≤ 2000000 * 128 := Nat.mul_le_mul hlen hby
        omega) hbase
    refine ⟨v', w', hrun, ?_, h3⟩
    unfold OwnR
    rw [flat_append, List.length_append]
    exact h2
theorem wpList_append_rows {ts : TypeId} {z : Value} {by_ : Nat} (hts : Tryz.prog.underlying ts = some (.slice T)) (hinfo : (Tryz.prog.info? T).map (fun i => (i.zero, i.size, i.bytes)) = some (some z, m, by_)) (hzs : z.cells.size = m) (h0 : 0 < m) (hby : by_ ≤ 128)
    (hm : ∀ x, (f x).length = m) (h1 : ∀ x, ∀ v ∈ f x, v.oneCell' = true) {ops : Array Oper} {rest : List Oper} {o : Oper} {a : Act} {Q : Exit → Act → World → Prop} (hgd : o.guard = none) (s x : Operand)
    (ho : o.op = .call { callee := .builtin .append, args := #[s, x], argTypes := #[ts, ts] })
    (base : Nat) (v : Value) (l : List α) (A : Option Addr) (n c : Nat) (vs : List α)
    (hown : OwnR T m f w base v l) (hs : a.eval s = v) (hx : a.eval x = .slice A n c) (hn : n = vs.length) (hA : A = none → c = 0) (hvs : RowAt m f w w.heap.size A vs) (hlen : l.length + vs.length ≤ 2000000) (hbase : base ≤ w.heap.size)
    (h : ∀ v' w', OwnR T m f w' base v' (l ++ vs) → w.grownBy w' v.ownBlock → wpList Tryz.prog ops Q rest (a.put o.dst v') w') :
    wpList Tryz.prog ops Q (o :: rest) a w := by
  subst hn
  refine wpList_plain hgd fun K hK => ?_
  obtain ⟨v', w', hr, h2, h3⟩ := run_append_rows hts hinfo hzs h0 hby hm h1 o.type A c vs hown hA hvs hlen hbase
  unfold Oper.wp execOp
  simp only [ho, resolve, invoke, builtin, Sem.run_bind, Sem.run_pure, Result.andThen_ok, List.map_toArray, List.map_cons, List.map_nil, hs, hx, hr]
  exact hK _ _ (h v' w' h2 h3)
theorem step_append_rows {ts : TypeId} {z : Value} {by_ : Nat} (hts : Tryz.prog.underlying ts = some (.slice T)) (hinfo : (Tryz.prog.info? T).map (fun i => (i.zero, i.size, i.bytes)) = some (some z, m, by_)) (hzs : z.cells.size = m) (h0 : 0 < m) (hby : by_ ≤ 128)
    (hm : ∀ x, (f x).length = m) (h1 : ∀ x, ∀ v ∈ f x, v.oneCell' = true) {ops : Array Oper} {o : Oper} {a : Act} {K : Act → World → Prop} {Q : Exit → Act → World → Prop} {E : Prop} (hgd : o.guard = none) (s x : Operand)
    (ho : o.op = .call { callee := .builtin .append, args := #[s, x], argTypes := #[ts, ts] })
    (base : Nat) (v : Value) (l : List α) (A : Option Addr) (n c : Nat) (vs : List α)
    (hown : OwnR T m f w base v l) (hs : a.eval s = v) (hx : a.eval x = .slice A n c) (hn : n = vs.length) (hA : A = none → c = 0) (hvs : RowAt m f w w.heap.size A vs) (hlen : l.length + vs.length ≤ 2000000) (hbase : base ≤ w.heap.size)
    (h : ∀ v' w', OwnR T m f w' base v' (l ++ vs) → w.grownBy w' v.ownBlock → K (a.put o.dst v') w') :
    if Region.wanted o (yielded ops a.tmps) = true then Oper.wp Tryz.prog o a w K Q else E := by
  subst hn
  have hw : Region.wanted o (yielded ops a.tmps) = true := by simp [Region.wanted, hgd]
  rw [if_pos hw]
  obtain ⟨v', w', hr, h2, h3⟩ := run_append_rows hts hinfo hzs h0 hby hm h1 o.type A c vs hown hA hvs hlen hbase
  unfold Oper.wp
  simp [execOp, ho, resolve, invoke, builtin, hs, hx, hr, Result.andThen]
  exact h v' w' h2 h3
end
set_option maxRecDepth 100000 in
theorem infoC : (Tryz.prog.info? 63).map (fun i => (i.zero, i.size, i.bytes)) = some (some (.agg #[.int .i64 0, .string ByteArray.empty, .int .i64 0, .int .i64 0, .bool false, .int .i64 0, .int .i64 0, .string ByteArray.empty]), 8, 80) := by kernel_rfl
set_option maxRecDepth 100000 in
theorem infoTb : (Tryz.prog.info? 51).map (fun i => (i.zero, i.size, i.bytes)) = some (some (.agg #[.int .i64 0, .string ByteArray.empty, .int .i64 0, .int .i64 0, .slice none 0 0]), 5, 64) := by kernel_rfl
theorem OwnR.lit0 {α : Type} (T : TypeId) (m : Nat) (f : α → List Value) (w : World) (base : Nat) (hb : base ≤ w.heap.size) : OwnR T m f (w.alloc (.cells #[] T)) base (.slice (some ⟨w.heap.size, 0, none⟩) 0 0) [] :=
  World.ownsRow_lit w #[] 0 hb (by unfold maxLen; omega) (by simp)
/-- a struct in its box: a row of one -/
theorem OwnR.box {α : Type} (T : TypeId) (m : Nat) (f : α → List Value) (hm : ∀ x, (f x).length = m) (w : World) (x : α) : OwnR T m f (w.alloc (.cells (f x).toArray T)) w.heap.size (.slice (some ⟨w.heap.size, 0, none⟩) 1 1) [x] := by
  have := World.ownsRow_lit (base := w.heap.size) (e := T) (size := m) w (f x).toArray 1 (Nat.le_refl _) (by unfold maxLen; omega) (by simp [hm])
  unfold OwnR
  simpa [flt] using this
end Go.Proofs.YthmjgaekcghonaaGreatDoor

/-
  Parameters of type api.DDL and []api.DDL, opened; a change in its box; catalogs of the call's own.
-/
namespace Go.Proofs.YthmjgaekcghonaaGreatDoor
open Go.RowKit Go.WideShapes

/-- a change in memory -/
structure Db where
  p : Dp
  A : Option Addr
  cap : Nat
def fD (d : Db) : List Value := [.int .i64 d.p.op, .string d.p.tb, .string d.p.co, .string d.p.to, .string d.p.key, .int .i64 d.p.tk, .int .i64 d.p.tm, .bool d.p.nl, .int .i64 d.p.dk, .int .i64 d.p.dn, .string d.p.ds, .slice d.A d.p.cols.length d.cap]
abbrev DV (d : Db) : Value := .agg #[.int .i64 d.p.op, .string d.p.tb, .string d.p.co, .string d.p.to, .string d.p.key, .int .i64 d.p.tk, .int .i64 d.p.tm, .bool d.p.nl, .int .i64 d.p.dk, .int .i64 d.p.dn, .string d.p.ds, .slice d.A d.p.cols.length d.cap]
theorem lenD (d : Db) : (fD d).length = 12 := rfl
instance : Inhabited Db := ⟨⟨⟨0, ByteArray.empty, ByteArray.empty, ByteArray.empty, ByteArray.empty, 0, 0, false, 0, 0, ByteArray.empty, []⟩, none, 0⟩⟩
/-- what of a change lies elsewhere; rows of changes -/
def DdlAt (w : World) (B : Nat) (d : Db) : Prop := ColsAt w B d.A d.p.cols
def DdlsAt (w : World) (B : Nat) (A : Option Addr) (l : List Db) : Prop := RowAt 12 fD w B A l ∧ ∀ d ∈ l, DdlAt w B d
theorem DdlAt.to {w w' : World} {d : Db} (h : DdlAt w w.heap.size d) (hb : Below w.heap.size w w') : DdlAt w' w'.heap.size d := RowAt.to h hb
theorem DdlsAt.to {w w' : World} {A : Option Addr} {l : List Db} (h : DdlsAt w w.heap.size A l) (hb : Below w.heap.size w w') : DdlsAt w' w'.heap.size A l := ⟨h.1.to hb, fun d hd => RowAt.to (h.2 d hd) hb⟩
/-- what is known of a change that comes in -/
def InD (w : World) (d : Db) : Prop := (Lit.int .i64 d.p.op).wf = true ∧ d.p.tb.size ≤ maxLen ∧ d.p.co.size ≤ maxLen ∧ d.p.to.size ≤ maxLen ∧ d.p.key.size ≤ maxLen ∧ (Lit.int .i64 d.p.tk).wf = true ∧ (Lit.int .i64 d.p.tm).wf = true ∧
  (Lit.int .i64 d.p.dk).wf = true ∧ (Lit.int .i64 d.p.dn).wf = true ∧ d.p.ds.size ≤ maxLen ∧ d.p.cols.length ≤ maxLen ∧ d.p.cols.length ≤ d.cap ∧ DdlAt w w.heap.size d ∧ ∀ c ∈ d.p.cols, InC c
set_option maxRecDepth 100000 in
theorem q_ddl : Tryz.prog.cellsOf 31 = 12 := by kernel_rfl
set_option maxRecDepth 100000 in
set_option maxHeartbeats 1000000 in
theorem ddl_of {H : Type} {enc : TypeId × Value → H} {W : World} {sp : Nat → Bool} (fuel : Nat) (cs : List Value) (y : DataW H × List MemPlace)
    (h : DataW.trod enc Tryz.prog W 0 sp true fuel 31 cs = some y) : ∃ d : Db, cs = fD d ∧ InD W d := by
  obtain ⟨xs, n', _, _, hl, hlen, hf⟩ := DataW.trod_struct Tryz.underlying31 h
  rw [q_ddl] at hl
  match xs, hlen with
  | [y0, y1, y2, y3, y4, y5, y6, y7, y8], _ =>
    match cs, hl with
    | [c0, c1, c2, c3, c4, c5, c6, c7, c8, c9, c10, c11], _ =>
      have t0 := hf 0 _ rfl
      have t1 := hf 1 _ rfl
      have t2 := hf 2 _ rfl
      have t3 := hf 3 _ rfl
      have t4 := hf 4 _ rfl
      have t5 := hf 5 _ rfl
      have t6 := hf 6 _ rfl
      have t7 := hf 7 _ rfl
      have t8 := hf 8 _ rfl
      simp [q_int, q_string, q_cols, q_bool, q_type, cellsV] at t0 t1 t2 t3 t4 t5 t6 t7 t8
      obtain ⟨i, r0, _, w0⟩ := DataW.trod_int Tryz.underlying3 t0
      obtain ⟨s1, r1, _, w1⟩ := DataW.trod_string Tryz.underlying9 t1
      obtain ⟨s2, r2, _, w2⟩ := DataW.trod_string Tryz.underlying9 t2
      obtain ⟨s3, r3, _, w3⟩ := DataW.trod_string Tryz.underlying9 t3
      obtain ⟨s4, r4, _, w4⟩ := DataW.trod_string Tryz.underlying9 t4
      obtain ⟨k, m, rfl, rfl, w5, w6⟩ := typ_of t5
      obtain ⟨b, r6, _⟩ := DataW.trod_bool Tryz.underlying4 t6
      obtain ⟨dk, dn, ds, rfl, rfl, rfl, w7, w8, w9⟩ := val_of t7
      obtain ⟨a, len, cap, rfl, l, rfl, hl1, hlc, hl2, hl3⟩ := row_open Tryz.underlying29 q_col col_of (fun a => ⟨_, rfl⟩) t8
      simp at r0 r1 r2 r3 r4 r6
      subst r0 r1 r2 r3 r4 r6
      exact ⟨⟨⟨i, s1, s2, s3, s4, k, m, b, dk, dn, ds, l⟩, a, cap⟩, rfl, w0, w1, w2, w3, w4, w5, w6, w7, w8, w9, hl1, hlc, hl2, hl3⟩
set_option maxRecDepth 100000 in
theorem openDDL {H : Type} {enc : TypeId × Value → H} {W : World} {base : Nat} {v : Value} {d : DataW H} {p : List MemPlace} {sp : Nat → Bool}
    (hv : Value.okWide Tryz.prog W .any base 31 v) (h : DataW.Trod enc Tryz.prog W 0 sp true 31 v d p) : ∃ d : Db, v = DV d ∧ InD W d := by
  obtain ⟨cs, rfl, _⟩ := okWide_struct Tryz.underlying31 hv
  obtain ⟨fuel, hf⟩ := h
  obtain ⟨t, h1, h2⟩ := ddl_of _ _ _ hf
  refine ⟨t, ?_, h2⟩
  simp only [Value.cells] at h1
  show Value.agg cs = Value.agg (fD t).toArray
  rw [← h1]
def DdlsIn (w : World) (A : Option Addr) (cap : Nat) (l : List Db) : Prop := l.length ≤ maxLen ∧ l.length ≤ cap ∧ DdlsAt w w.heap.size A l ∧ ∀ d ∈ l, InD w d
/-! ### Catalogs of the call's own -/
/-- the block of a table's columns -/
abbrev colBk (t : Tb) : Option Nat := (Value.slice t.A t.cols.length t.cap).ownBlock
/-- the row of tables lies from block B on, ahead of Bc; the rows of columns from Bc on, each in a block of its own -/
structure OwnCat (w : World) (B Bc : Nat) (v : Value) (l : List Tb) : Prop where
  row : OwnTb w B v l
  ahead : ∀ k, v.ownBlock = some k → k < Bc
  base : B ≤ Bc
  cols : ∀ t ∈ l, OwnC w Bc (.slice t.A t.cols.length t.cap) t.cols
  apart : ∀ (i j : Nat) s t, l[i]? = some s → l[j]? = some t → i ≠ j → ∀ k, colBk s = some k → colBk t ≠ some k
/-- the blocks of a catalog of the call's own -/
def InCat (v : Value) (l : List Tb) (k : Nat) : Prop := v.ownBlock = some k ∨ ∃ t ∈ l, colBk t = some k
theorem OwnCat.lt {w : World} {B Bc : Nat} {v : Value} {l : List Tb} (h : OwnCat w B Bc v l) : ∀ k, InCat v l k → B ≤ k ∧ k < w.heap.size := fun k hk => by
  rcases hk with hk | ⟨t, ht, hk⟩
  · exact h.row.lt k hk
  · have := (h.cols t ht).lt k hk
    have := h.base
    exact ⟨by omega, by omega⟩
theorem OwnCat.to_off {S : Nat → Prop} {w w' : World} {B Bc : Nat} {v : Value} {l : List Tb} (h : OwnCat w B Bc v l) (hw : Off S w w') (hn : ∀ k, InCat v l k → ¬ S k) : OwnCat w' B Bc v l :=
  ⟨h.row.off hw fun k hk => hn k (.inl hk), h.ahead, h.base, fun t ht => (h.cols t ht).off hw fun k hk => hn k (.inr ⟨t, ht, hk⟩), h.apart⟩
theorem OwnCat.below {w w' : World} {B Bc : Nat} {v : Value} {l : List Tb} (h : OwnCat w B Bc v l) (hb : Below w.heap.size w w') : OwnCat w' B Bc v l := h.to_off (S := fun _ => False) (.of_below hb) fun _ _ e => e
theorem OwnCat.mono' {w : World} {B B' Bc : Nat} {v : Value} {l : List Tb} (h : OwnCat w B Bc v l) (hb : B' ≤ B) : OwnCat w B' Bc v l := ⟨h.row.mono hb, h.ahead, Nat.le_trans hb h.base, h.cols, h.apart⟩
theorem OwnCat.at {w : World} {B Bc : Nat} {A : Option Addr} {n cap : Nat} {l : List Tb} (h : OwnCat w B Bc (.slice A n cap) l) : TabsAt w w.heap.size A l := ⟨h.row.at lenT, fun t ht => (h.cols t ht).at lenC⟩
theorem OwnCat.below_of {w w' : World} {B Bc : Nat} {v : Value} {l : List Tb} (h : OwnCat w B Bc v l) (hw : Off (InCat v l) w w') (hB : B ≤ w.heap.size) : Below B w w' := hw.below (fun k _ hk => (h.lt k hk).1) hB
/-- one table changed, its columns with it: the others stay -/
theorem OwnCat.set {w w' : World} {B Bc B2 g n cap : Nat} {l : List Tb} {k : Nat} {t t' : Tb} (h : OwnCat w B Bc (.slice (some ⟨g, 0, none⟩) n cap) l) (hk : l[k]? = some t)
    (hrow : OwnTb w' B (.slice (some ⟨g, 0, none⟩) n cap) (l.set k t')) (hcol : OwnC w' B2 (.slice t'.A t'.cols.length t'.cap) t'.cols)
    (hw : Off (fun x => x = g ∨ colBk t = some x) w w') : TabsAt w' w'.heap.size (some ⟨g, 0, none⟩) (l.set k t') := by
  refine ⟨hrow.at lenT, fun s hs => ?_⟩
  obtain ⟨j, hj⟩ := List.mem_iff_getElem?.1 hs
  rw [List.getElem?_set] at hj
  split at hj
  · split at hj
    · cases hj; exact hcol.at lenC
    · cases hj
  · rename_i e
    have hsm := List.mem_of_getElem? hj
    refine ((h.cols s hsm).off hw fun x hx e' => ?_).at lenC
    rcases e' with e' | e'
    · subst e'
      have := (h.cols s hsm).lt x hx
      have := h.ahead x rfl
      omega
    · exact h.apart j k s t hj hk (fun q => e q.symm) x hx e'
/-- a table in its box -/
theorem OwnCat.box {w : World} {b : Nat} {t : Tb} (h : OwnTb w b (.slice (some ⟨b, 0, none⟩) 1 1) [t]) (hc : OwnC w (b + 1) (.slice t.A t.cols.length t.cap) t.cols) : OwnCat w b (b + 1) (.slice (some ⟨b, 0, none⟩) 1 1) [t] :=
  ⟨h, fun k hk => by simp [Value.ownBlock] at hk; omega, by omega, fun s hs => by simp at hs; subst hs; exact hc, fun i j s u hi hj hne => by
    cases i with
    | succ i => simp at hi
    | zero =>
      cases j with
      | succ j => simp at hj
      | zero => exact absurd rfl hne⟩
end Go.Proofs.YthmjgaekcghonaaGreatDoor

/-
  Contracts of package schema's isNull, RightColumn, checkValue and of the document's own Column.
-/
namespace Go.Proofs.YthmjgaekcghonaaGreatDoor
open Go.RowKit

theorem isNull_any (k n : Int) (s : ByteArray) (w : World) : Calls Tryz.prog 105 #[VV k n s] w fun e w' => e = .returned (.bool (nulV k n s)) ∧ Below w.heap.size w w' := by
  have Hv : Hid (nulV k n s = ((k == 0) && ((n == 0) && eqS s ⟨#[]⟩))) := rfl
  have q := fun w k n s => run_eql_V w k n 0 0 s ⟨#[]⟩
  go_enter Tryz.func105, Tryz.ntmps105
  go_wp2_with fail
  go_ret
  exact ⟨by rw [Hv.out]; rfl, by go_grown⟩
theorem below_one' (w : World) (o : Obj) : Below w.heap.size w (w.alloc o) := (Below.refl _ _).alloc (Nat.le_refl _) o
set_option maxRecDepth 100000 in
set_option maxHeartbeats 1600000 in
theorem rcol_any (c : Cb) (w : World) (ht : UTab w) (hw : WfC c) : Calls Tryz.prog 82 #[CV c] w fun e w' => e = .returned (.bool (rightC c)) ∧ Below w.heap.size w w' := by
  have Hw := Lib.hid hw; clear hw
  have HT := Lib.hid (ht.alloc (.cells (fC c).toArray 63)); clear ht
  have HN := Lib.hid (fun w => nright_any c.nm w Hw.out.1)
  have HR := Lib.hid (fun w => tright_any c.tk c.tm w)
  have HF := Lib.hid (fun w ht => tfits_any c.tk c.tm c.dk c.dn c.ds w ht)
  have HB := Lib.hid (BlkN.new w _ (fC c) 63 rfl)
  have hb0 := Lib.hid (below_one' w (.cells (fC c).toArray 63))
  have Hv : Hid (rightC c = (decide (0 ≤ c.id) && (decide (c.id < 200) && (rightN (bs c.nm) && (rightT c.tk c.tm && (nulV c.dk c.dn c.ds || fitT c.tk c.tm c.dk c.dn c.ds)))))) := rfl
  have HU := Lib.hid (fun w => isNull_any c.dk c.dn c.ds w)
  generalize h1 : decide (0 ≤ c.id) = b1 at Hv
  generalize h2 : decide (c.id < 200) = b2 at Hv
  generalize rightN (bs c.nm) = b3 at Hv HN
  generalize rightT c.tk c.tm = b4 at Hv HR
  generalize nulV c.dk c.dn c.ds = b5 at Hv HU
  generalize fitT c.tk c.tm c.dk c.dn c.ds = b6 at Hv HF
  cases b1
  · go_enter Tryz.func82, Tryz.ntmps82
    go_wp2_with fail
    go_ret
    exact ⟨by rw [Hv.out]; rfl, by go_grown⟩
  cases b2
  · go_enter Tryz.func82, Tryz.ntmps82
    go_wp2_with fail
    go_ret
    exact ⟨by rw [Hv.out]; rfl, by go_grown⟩
  cases b3
  · go_enter Tryz.func82, Tryz.ntmps82
    go_wp2_with fail
    refine (HN.out _).mono ?_
    rintro e w1 ⟨rfl, rfl⟩
    go_wp2_with fail
    go_ret
    exact ⟨by rw [Hv.out]; rfl, by go_grown⟩
  cases b4
  · go_enter Tryz.func82, Tryz.ntmps82
    go_wp2_with fail
    refine (HN.out _).mono ?_
    rintro e w1 ⟨rfl, rfl⟩
    go_wp2_with fail
    refine (HR.out _).mono ?_
    rintro e w1 ⟨rfl, hb1⟩
    have Hb1 := Lib.hid (bthen hb0.out hb1)
    have HK1 := Lib.hid (HB.out.below hb1 (by simp))
    have HT1 := Lib.hid (HT.out.below hb1 (Nat.le_refl _))
    clear hb1
    obtain ⟨c0, c1, c2, c3, c4, c5, c6, c7⟩ := HK1.out.col
    go_wp2_with fail
    go_ret
    exact ⟨by rw [Hv.out]; rfl, Hb1.out⟩
  cases b5
  · go_enter Tryz.func82, Tryz.ntmps82
    go_wp2_with fail
    refine (HN.out _).mono ?_
    rintro e w1 ⟨rfl, rfl⟩
    go_wp2_with fail
    refine (HR.out _).mono ?_
    rintro e w1 ⟨rfl, hb1⟩
    have Hb1 := Lib.hid (bthen hb0.out hb1)
    have HK1 := Lib.hid (HB.out.below hb1 (by simp))
    have HT1 := Lib.hid (HT.out.below hb1 (Nat.le_refl _))
    clear hb1
    obtain ⟨c0, c1, c2, c3, c4, c5, c6, c7⟩ := HK1.out.col
    go_wp2_with fail
    refine (HU.out _).mono ?_
    rintro e w2 ⟨rfl, hb2⟩
    have Hb2 := Lib.hid (bthen Hb1.out hb2)
    have HK2 := Lib.hid (HK1.out.below hb2 (by have := World.block_lt_of_cell? _ _ c0; simpa using this))
    have HT2 := Lib.hid (HT1.out.below hb2 (Nat.le_refl _))
    clear hb2 c0 c1 c2 c3 c4 c5 c6 c7
    obtain ⟨c0, c1, c2, c3, c4, c5, c6, c7⟩ := HK2.out.col
    go_wp2_with fail
    refine (HF.out _ HT2.out).mono ?_
    rintro e w3 ⟨rfl, hb3⟩
    have Hb3 := Lib.hid (bthen Hb2.out hb3); clear hb3
    go_wp2_with fail
    go_ret
    exact ⟨by rw [Hv.out]; rfl, Hb3.out⟩
  · go_enter Tryz.func82, Tryz.ntmps82
    go_wp2_with fail
    refine (HN.out _).mono ?_
    rintro e w1 ⟨rfl, rfl⟩
    go_wp2_with fail
    refine (HR.out _).mono ?_
    rintro e w1 ⟨rfl, hb1⟩
    have Hb1 := Lib.hid (bthen hb0.out hb1)
    have HK1 := Lib.hid (HB.out.below hb1 (by simp))
    have HT1 := Lib.hid (HT.out.below hb1 (Nat.le_refl _))
    clear hb1
    obtain ⟨c0, c1, c2, c3, c4, c5, c6, c7⟩ := HK1.out.col
    go_wp2_with fail
    refine (HU.out _).mono ?_
    rintro e w2 ⟨rfl, hb2⟩
    have Hb2 := Lib.hid (bthen Hb1.out hb2)
    have HK2 := Lib.hid (HK1.out.below hb2 (by have := World.block_lt_of_cell? _ _ c0; simpa using this))
    have HT2 := Lib.hid (HT1.out.below hb2 (Nat.le_refl _))
    clear hb2 c0 c1 c2 c3 c4 c5 c6 c7
    obtain ⟨c0, c1, c2, c3, c4, c5, c6, c7⟩ := HK2.out.col
    go_wp2_with fail
    go_ret
    exact ⟨by rw [Hv.out]; rfl, Hb2.out⟩
set_option maxRecDepth 100000 in
set_option maxHeartbeats 1600000 in
theorem rrcol_any (c : Cb) (w : World) (hw : WfC c) : Calls Tryz.prog 55 #[CV c] w fun e w' => e = .returned (.bool (rightC c)) ∧ Below w.heap.size w w' := by
  have Hw := Lib.hid hw; clear hw
  have HN := Lib.hid (fun w => nrright_any c.nm w Hw.out.1)
  have HR := Lib.hid (fun w => trright_any c.tk c.tm w)
  have HF := Lib.hid (fun w => trfits_any c.tk c.tm c.dk c.dn c.ds w Hw.out.2.1 Hw.out.2.2)
  have HB := Lib.hid (BlkN.new w _ (fC c) 63 rfl)
  have hb0 := Lib.hid (below_one' w (.cells (fC c).toArray 63))
  have Hv : Hid (rightC c = (decide (0 ≤ c.id) && (decide (c.id < 200) && (rightN (bs c.nm) && (rightT c.tk c.tm && (nulV c.dk c.dn c.ds || fitT c.tk c.tm c.dk c.dn c.ds)))))) := rfl
  have q : ∀ w, (binOp .eql 28 (VV c.dk c.dn c.ds) (VV 0 0 ⟨#[]⟩)).run Tryz.prog w = .ok (.bool (nulV c.dk c.dn c.ds)) w := fun w => run_eql_V w c.dk c.dn 0 0 c.ds ⟨#[]⟩
  generalize h1 : decide (0 ≤ c.id) = b1 at Hv
  generalize h2 : decide (c.id < 200) = b2 at Hv
  generalize rightN (bs c.nm) = b3 at Hv HN
  generalize rightT c.tk c.tm = b4 at Hv HR
  generalize nulV c.dk c.dn c.ds = b5 at Hv q
  generalize fitT c.tk c.tm c.dk c.dn c.ds = b6 at Hv HF
  cases b1
  · go_enter Tryz.func55, Tryz.ntmps55
    go_wp2_with fail
    go_ret
    exact ⟨by rw [Hv.out]; rfl, by go_grown⟩
  cases b2
  · go_enter Tryz.func55, Tryz.ntmps55
    go_wp2_with fail
    go_ret
    exact ⟨by rw [Hv.out]; rfl, by go_grown⟩
  cases b3
  · go_enter Tryz.func55, Tryz.ntmps55
    go_wp2_with fail
    refine (HN.out _).mono ?_
    rintro e w1 ⟨rfl, rfl⟩
    go_wp2_with fail
    go_ret
    exact ⟨by rw [Hv.out]; rfl, by go_grown⟩
  cases b4
  · go_enter Tryz.func55, Tryz.ntmps55
    go_wp2_with fail
    refine (HN.out _).mono ?_
    rintro e w1 ⟨rfl, rfl⟩
    go_wp2_with fail
    refine (HR.out _).mono ?_
    rintro e w1 ⟨rfl, hb1⟩
    have Hb1 := Lib.hid (bthen hb0.out hb1)
    have HK1 := Lib.hid (HB.out.below hb1 (by simp))
    clear hb1
    obtain ⟨c0, c1, c2, c3, c4, c5, c6, c7⟩ := HK1.out.col
    go_wp2_with fail
    go_ret
    exact ⟨by rw [Hv.out]; rfl, Hb1.out⟩
  cases b5
  · go_enter Tryz.func55, Tryz.ntmps55
    go_wp2_with fail
    refine (HN.out _).mono ?_
    rintro e w1 ⟨rfl, rfl⟩
    go_wp2_with fail
    refine (HR.out _).mono ?_
    rintro e w1 ⟨rfl, hb1⟩
    have Hb1 := Lib.hid (bthen hb0.out hb1)
    have HK1 := Lib.hid (HB.out.below hb1 (by simp))
    clear hb1
    obtain ⟨c0, c1, c2, c3, c4, c5, c6, c7⟩ := HK1.out.col
    go_wp2_with fail
    refine (HF.out _).mono ?_
    rintro e w2 ⟨rfl, hb2⟩
    have Hb2 := Lib.hid (bthen Hb1.out hb2); clear hb2
    go_wp2_with fail
    go_ret
    exact ⟨by rw [Hv.out]; rfl, Hb2.out⟩
  · go_enter Tryz.func55, Tryz.ntmps55
    go_wp2_with fail
    refine (HN.out _).mono ?_
    rintro e w1 ⟨rfl, rfl⟩
    go_wp2_with fail
    refine (HR.out _).mono ?_
    rintro e w1 ⟨rfl, hb1⟩
    have Hb1 := Lib.hid (bthen hb0.out hb1)
    have HK1 := Lib.hid (HB.out.below hb1 (by simp))
    clear hb1
    obtain ⟨c0, c1, c2, c3, c4, c5, c6, c7⟩ := HK1.out.col
    go_wp2_with fail
    go_ret
    exact ⟨by rw [Hv.out]; rfl, Hb1.out⟩
end Go.Proofs.YthmjgaekcghonaaGreatDoor

/-
  Contracts of the document's own Find, ById, Col and Key of layer 8.
-/
namespace Go.Proofs.YthmjgaekcghonaaGreatDoor
open Go.RowKit

/-- a table, a column, a slice in a new box -/
theorem box_tab (w : World) (t : Tb) : ∃ w0, w.alloc (.cells #[.int .i64 t.id, .string t.nm, .int .i64 t.key, .int .i64 t.nx, .slice t.A t.cols.length t.cap] 51) = w0 ∧ Below w.heap.size w w0 ∧ BlkN w0 w.heap.size (fT t) ∧ w0.heap.size = w.heap.size + 1 :=
  ⟨_, rfl, (Below.refl _ _).alloc (Nat.le_refl _) _, BlkN.new w _ (fT t) _ rfl, by simp⟩
theorem box_col (w : World) (c : Cb) : ∃ w0, w.alloc (.cells #[.int .i64 c.id, .string c.nm, .int .i64 c.tk, .int .i64 c.tm, .bool c.nl, .int .i64 c.dk, .int .i64 c.dn, .string c.ds] 63) = w0 ∧ Below w.heap.size w w0 ∧ BlkN w0 w.heap.size (fC c) ∧ w0.heap.size = w.heap.size + 1 :=
  ⟨_, rfl, (Below.refl _ _).alloc (Nat.le_refl _) _, BlkN.new w _ (fC c) _ rfl, by simp⟩
theorem box_one (w : World) (v : Value) (ty : TypeId) : ∃ w0, w.alloc (.cells #[v] ty) = w0 ∧ Below w.heap.size w w0 ∧ BlkN w0 w.heap.size [v] ∧ w0.heap.size = w.heap.size + 1 :=
  ⟨_, rfl, (Below.refl _ _).alloc (Nat.le_refl _) _, BlkN.new w _ [v] _ rfl, by simp⟩
set_option maxRecDepth 100000 in
set_option maxHeartbeats 800000 in
theorem rfind_any (A : Option Addr) (cp : Nat) (l : List Tb) (s : ByteArray) (w : World) (hA : TabsAt w w.heap.size A l) (hl : l.length ≤ 1000000) :
    Calls Tryz.prog 24 #[.agg #[.slice A l.length cp], .string s] w fun e w' => e = .returned (.int .i64 (idxI (l.findIdx? fun x => eqS x.nm s))) ∧ Below w.heap.size w w' := by
  obtain ⟨w0, hw0, hb0, hB, hs0⟩ := box_one w (.slice A l.length cp) 24
  have Hw0 := Lib.hid hw0; clear hw0
  have Hb0 := Lib.hid hb0
  have HA := Lib.hid (hA.to hb0); clear hA hb0
  have c4 := hB.one
  clear hB
  have Hs0 := Lib.hid hs0; clear hs0
  go_enter Tryz.func24, Tryz.ntmps24
  go_wp2_with fail
  rw [Hw0.out]
  go_loop [5] (fun i => ∃ k : Nat, k ≤ l.length ∧ i = .int .i64 k ∧ Hid (∀ j x, l[j]? = some x → j < k → (eqS x.nm s) = false)) (fun i => l.length - (intOf i).toNat)
  case atStart => exact ⟨0, by omega, rfl, fun j v _ h => absurd h (by omega)⟩
  case round =>
    obtain ⟨k, hk, rfl, hall⟩ := hrel
    by_cases hlt : k < l.length
    · obtain ⟨x, hx⟩ : ∃ x, l[k]? = some x := ⟨l[k], by simp [hlt]⟩
      have Hx := Lib.hid hx
      obtain ⟨b, off, hAe, hbB, d0, d1, d2, d3, d4⟩ := HA.out.get k x hx
      clear hx
      have Hc4 := Lib.hid c4
      rw [hAe] at c4
      cases hp : (eqS x.nm s)
      · have Hall : Hid (∀ j x, l[j]? = some x → j < k + 1 → (eqS x.nm s) = false) := fun j y hj hk => by
          by_cases e : j = k
          · subst e
            rw [Hx.out] at hj
            cases hj
            exact hp
          · exact hall.out j y hj (by omega)
        go_wp2_with fail
        go_round
        case rel => exact ⟨k + 1, by omega, by go_num, Hall.out⟩
        case measure => simp [intOf]; omega
      · have Hfi : Hid ((l.findIdx? fun x => eqS x.nm s) = some k) := find_at hall.out Hx.out hp
        go_wp2_with fail
        go_ret
        exact ⟨by rw [Hfi.out]; rfl, Hb0.out⟩
    · have Hfi : Hid ((l.findIdx? fun x => eqS x.nm s) = none) := find_no fun j x hj => hall.out j x hj (by have := (List.getElem?_eq_some_iff.1 hj).1; omega)
      go_wp2_with fail
      go_ret
      exact ⟨by rw [Hfi.out]; rfl, Hb0.out⟩
set_option maxRecDepth 100000 in
set_option maxHeartbeats 800000 in
theorem rbyId_any (A : Option Addr) (cp : Nat) (l : List Tb) (s : Int) (w : World) (hA : TabsAt w w.heap.size A l) (hl : l.length ≤ 1000000) :
    Calls Tryz.prog 47 #[.agg #[.slice A l.length cp], .int .i64 s] w fun e w' => e = .returned (.int .i64 (idxI (l.findIdx? fun x => x.id == s))) ∧ Below w.heap.size w w' := by
  obtain ⟨w0, hw0, hb0, hB, hs0⟩ := box_one w (.slice A l.length cp) 24
  have Hw0 := Lib.hid hw0; clear hw0
  have Hb0 := Lib.hid hb0
  have HA := Lib.hid (hA.to hb0); clear hA hb0
  have c4 := hB.one
  clear hB
  have Hs0 := Lib.hid hs0; clear hs0
  go_enter Tryz.func47, Tryz.ntmps47
  go_wp2_with fail
  rw [Hw0.out]
  go_loop [5] (fun i => ∃ k : Nat, k ≤ l.length ∧ i = .int .i64 k ∧ Hid (∀ j x, l[j]? = some x → j < k → (x.id == s) = false)) (fun i => l.length - (intOf i).toNat)
  case atStart => exact ⟨0, by omega, rfl, fun j v _ h => absurd h (by omega)⟩
  case round =>
    obtain ⟨k, hk, rfl, hall⟩ := hrel
    by_cases hlt : k < l.length
    · obtain ⟨x, hx⟩ : ∃ x, l[k]? = some x := ⟨l[k], by simp [hlt]⟩
      have Hx := Lib.hid hx
      obtain ⟨b, off, hAe, hbB, d0, d1, d2, d3, d4⟩ := HA.out.get k x hx
      clear hx
      have Hc4 := Lib.hid c4
      rw [hAe] at c4
      cases hp : (x.id == s)
      · have Hall : Hid (∀ j x, l[j]? = some x → j < k + 1 → (x.id == s) = false) := fun j y hj hk => by
          by_cases e : j = k
          · subst e
            rw [Hx.out] at hj
            cases hj
            exact hp
          · exact hall.out j y hj (by omega)
        go_wp2_with fail
        go_round
        case rel => exact ⟨k + 1, by omega, by go_num, Hall.out⟩
        case measure => simp [intOf]; omega
      · have Hfi : Hid ((l.findIdx? fun x => x.id == s) = some k) := find_at hall.out Hx.out hp
        go_wp2_with fail
        go_ret
        exact ⟨by rw [Hfi.out]; rfl, Hb0.out⟩
    · have Hfi : Hid ((l.findIdx? fun x => x.id == s) = none) := find_no fun j x hj => hall.out j x hj (by have := (List.getElem?_eq_some_iff.1 hj).1; omega)
      go_wp2_with fail
      go_ret
      exact ⟨by rw [Hfi.out]; rfl, Hb0.out⟩
set_option maxRecDepth 100000 in
set_option maxHeartbeats 800000 in
theorem rcolI_any (t : Tb) (s : ByteArray) (w : World) (hA : TabAt w w.heap.size t) (hl : t.cols.length ≤ 1000000) :
    Calls Tryz.prog 50 #[TV t, .string s] w fun e w' => e = .returned (.int .i64 (idxI (colI t s))) ∧ Below w.heap.size w w' := by
  obtain ⟨w0, hw0, hb0, hB, hs0⟩ := box_tab w t
  have Hw0 := Lib.hid hw0; clear hw0
  have Hb0 := Lib.hid hb0
  have HA := Lib.hid (RowAt.to hA hb0); clear hA hb0
  obtain ⟨c0, c1, c2, c3, c4⟩ := hB.tab
  clear hB
  have Hs0 := Lib.hid hs0; clear hs0
  go_enter Tryz.func50, Tryz.ntmps50
  go_wp2_with fail
  rw [Hw0.out]
  go_loop [5] (fun i => ∃ k : Nat, k ≤ t.cols.length ∧ i = .int .i64 k ∧ Hid (∀ j x, t.cols[j]? = some x → j < k → (eqS x.nm s) = false)) (fun i => t.cols.length - (intOf i).toNat)
  case atStart => exact ⟨0, by omega, rfl, fun j v _ h => absurd h (by omega)⟩
  case round =>
    obtain ⟨k, hk, rfl, hall⟩ := hrel
    by_cases hlt : k < t.cols.length
    · obtain ⟨x, hx⟩ : ∃ x, t.cols[k]? = some x := ⟨t.cols[k], by simp [hlt]⟩
      have Hx := Lib.hid hx
      obtain ⟨b, off, hAe, hbB, d0, d1, d2, d3, d4, d5, d6, d7⟩ := ColsAt.get HA.out k x hx
      clear hx
      have Hc4 := Lib.hid c4
      rw [hAe] at c4
      cases hp : (eqS x.nm s)
      · have Hall : Hid (∀ j x, t.cols[j]? = some x → j < k + 1 → (eqS x.nm s) = false) := fun j y hj hk => by
          by_cases e : j = k
          · subst e
            rw [Hx.out] at hj
            cases hj
            exact hp
          · exact hall.out j y hj (by omega)
        go_wp2_with fail
        go_round
        case rel => exact ⟨k + 1, by omega, by go_num, Hall.out⟩
        case measure => simp [intOf]; omega
      · have Hfi : Hid ((colI t s) = some k) := find_at hall.out Hx.out hp
        go_wp2_with fail
        go_ret
        exact ⟨by rw [Hfi.out]; rfl, Hb0.out⟩
    · have Hfi : Hid ((colI t s) = none) := find_no fun j x hj => hall.out j x hj (by have := (List.getElem?_eq_some_iff.1 hj).1; omega)
      go_wp2_with fail
      go_ret
      exact ⟨by rw [Hfi.out]; rfl, Hb0.out⟩
end Go.Proofs.YthmjgaekcghonaaGreatDoor

/-
  Contracts of package ddl's small functions.
-/
namespace Go.Proofs.YthmjgaekcghonaaGreatDoor
open Go.RowKit

set_option maxRecDepth 100000 in
theorem dnull_any (k n : Int) (s : ByteArray) (w : World) : Calls Tryz.prog 69 #[VV k n s] w fun e w' => e = .returned (.bool (nulV k n s)) ∧ Below w.heap.size w w' := by
  have Hv : Hid (nulV k n s = ((k == 0) && ((n == 0) && eqS s ⟨#[]⟩))) := rfl
  have q := fun w k n s => run_eql_V w k n 0 0 s ⟨#[]⟩
  go_enter Tryz.func69, Tryz.ntmps69
  go_wp2_with fail
  go_ret
  exact ⟨by rw [Hv.out]; rfl, by go_grown⟩
theorem box_tv (w : World) (tk tm k n : Int) (s : ByteArray) : ∃ w0, (w.alloc (.cells #[.int .i64 tk, .int .i64 tm] 26)).alloc (.cells #[.int .i64 k, .int .i64 n, .string s] 28) = w0 ∧ Below w.heap.size w w0 ∧ w0.heap.size = w.heap.size + 2 ∧
    w0.cell? ⟨w.heap.size, 0, none⟩ = some (.int .i64 tk) ∧ w0.cell? ⟨w.heap.size, 1, none⟩ = some (.int .i64 tm) ∧ w0.cell? ⟨w.heap.size + 1, 0, none⟩ = some (.int .i64 k) ∧ w0.cell? ⟨w.heap.size + 1, 1, none⟩ = some (.int .i64 n) ∧ w0.cell? ⟨w.heap.size + 1, 2, none⟩ = some (.string s) :=
  ⟨_, rfl, below_two w _ _, by simp, keep_alloc (by simp) _, keep_alloc (by simp) _, by simp, by simp, by simp⟩
set_option maxRecDepth 100000 in
set_option maxHeartbeats 1000000 in
theorem rdef_any (tk tm k n : Int) (s : ByteArray) (w : World) (ht : UTab w) : Calls Tryz.prog 92 #[TT tk tm, VV k n s] w fun e w' => e = .returned (.bool (presetD tk tm k n s)) ∧ Below w.heap.size w w' := by
  obtain ⟨w0, hw0, hb0, hs0, d0, d1, d2, d3, d4⟩ := box_tv w tk tm k n s
  have Hw0 := Lib.hid hw0; clear hw0
  have Hb0 := Lib.hid hb0
  have Hs0 := Lib.hid hs0; clear hs0
  have HT := Lib.hid (ht.below hb0 (Nat.le_refl _)); clear ht hb0
  have Hd : Hid (w0.cell? ⟨w.heap.size, 0, none⟩ = some (.int .i64 tk) ∧ w0.cell? ⟨w.heap.size, 1, none⟩ = some (.int .i64 tm) ∧ w0.cell? ⟨w.heap.size + 1, 0, none⟩ = some (.int .i64 k) ∧ w0.cell? ⟨w.heap.size + 1, 1, none⟩ = some (.int .i64 n) ∧ w0.cell? ⟨w.heap.size + 1, 2, none⟩ = some (.string s)) := ⟨d0, d1, d2, d3, d4⟩
  clear d0 d1 d2 d3 d4
  have HN := Lib.hid (dnull_any k n s w0)
  rw [← Hw0.out] at HN
  have Hv : Hid (presetD tk tm k n s = (nulV k n s || fitT tk tm k n s)) := rfl
  have HF := Lib.hid (fun w ht => tfits_any tk tm k n s w ht)
  generalize nulV k n s = b1 at Hv HN
  generalize fitT tk tm k n s = b2 at Hv HF
  cases b1
  · go_enter Tryz.func92, Tryz.ntmps92
    go_wp2_with fail
    refine HN.out.mono ?_
    rintro e w1 ⟨rfl, hb1⟩
    rw [Hw0.out] at hb1
    have Hb1 := Lib.hid (bthen Hb0.out hb1)
    have HF1 := Lib.hid (HF.out w1 (HT.out.below hb1 (Nat.le_refl _)))
    have e0 := (hb1.cell (p := ⟨w.heap.size, 0, none⟩) (by have := Hs0.out; show w.heap.size < _; omega)).trans Hd.out.1
    have e1 := (hb1.cell (p := ⟨w.heap.size, 1, none⟩) (by have := Hs0.out; show w.heap.size < _; omega)).trans Hd.out.2.1
    have e2 := (hb1.cell (p := ⟨w.heap.size + 1, 0, none⟩) (by have := Hs0.out; show w.heap.size + 1 < _; omega)).trans Hd.out.2.2.1
    have e3 := (hb1.cell (p := ⟨w.heap.size + 1, 1, none⟩) (by have := Hs0.out; show w.heap.size + 1 < _; omega)).trans Hd.out.2.2.2.1
    have e4 := (hb1.cell (p := ⟨w.heap.size + 1, 2, none⟩) (by have := Hs0.out; show w.heap.size + 1 < _; omega)).trans Hd.out.2.2.2.2
    clear hb1
    go_wp2_with fail
    refine HF1.out.mono ?_
    rintro e w2 ⟨rfl, hb2⟩
    have Hb2 := Lib.hid (bthen Hb1.out hb2); clear hb2
    go_wp2_with fail
    go_ret
    exact ⟨by rw [Hv.out]; rfl, Hb2.out⟩
  · go_enter Tryz.func92, Tryz.ntmps92
    go_wp2_with fail
    refine HN.out.mono ?_
    rintro e w1 ⟨rfl, hb1⟩
    rw [Hw0.out] at hb1
    have Hb1 := Lib.hid (bthen Hb0.out hb1); clear hb1
    go_wp2_with fail
    go_ret
    exact ⟨by rw [Hv.out]; rfl, Hb1.out⟩
theorem fst_bool (o : Option Nat) : ∃ i : Int, fstV o = .tuple #[.int .i64 i, .bool o.isSome] := by
  cases o with
  | none => exact ⟨0, rfl⟩
  | some k => exact ⟨k, rfl⟩
set_option maxRecDepth 100000 in
theorem hastab_any (A : Option Addr) (cp : Nat) (l : List Tb) (s : ByteArray) (w : World) (hA : TabsAt w w.heap.size A l) (hl : l.length ≤ 1000000) :
    Calls Tryz.prog 62 #[.agg #[.slice A l.length cp], .string s] w fun e w' => e = .returned (.bool (l.findIdx? fun x => eqS x.nm s).isSome) ∧ Below w.heap.size w w' := by
  have hb0 := Lib.hid (below_one w (.cells #[.slice A l.length cp] 24))
  have HC := Lib.hid (sfind_any A cp l s _ (hA.to hb0.out) hl); clear hA
  obtain ⟨i, hi⟩ := fst_bool (l.findIdx? fun x => eqS x.nm s)
  rw [hi] at HC; clear hi
  generalize (l.findIdx? fun x => eqS x.nm s).isSome = q at HC ⊢
  go_enter Tryz.func62, Tryz.ntmps62
  go_wp2_with fail
  refine HC.out.mono ?_
  rintro e w1 ⟨rfl, hb1⟩
  have Hb1 := Lib.hid (bthen hb0.out hb1); clear hb1
  go_wp2_with fail
  go_ret
  exact ⟨rfl, Hb1.out⟩
set_option maxRecDepth 100000 in
theorem hasid_any (A : Option Addr) (cp : Nat) (l : List Tb) (s : Int) (w : World) (hA : TabsAt w w.heap.size A l) (hl : l.length ≤ 1000000) :
    Calls Tryz.prog 63 #[.agg #[.slice A l.length cp], .int .i64 s] w fun e w' => e = .returned (.bool (l.findIdx? fun x => x.id == s).isSome) ∧ Below w.heap.size w w' := by
  have hb0 := Lib.hid (below_one w (.cells #[.slice A l.length cp] 24))
  have HC := Lib.hid (sbyId_any A cp l s _ (hA.to hb0.out) hl); clear hA
  obtain ⟨i, hi⟩ := fst_bool (l.findIdx? fun x => x.id == s)
  rw [hi] at HC; clear hi
  generalize (l.findIdx? fun x => x.id == s).isSome = q at HC ⊢
  go_enter Tryz.func63, Tryz.ntmps63
  go_wp2_with fail
  refine HC.out.mono ?_
  rintro e w1 ⟨rfl, hb1⟩
  have Hb1 := Lib.hid (bthen hb0.out hb1); clear hb1
  go_wp2_with fail
  go_ret
  exact ⟨rfl, Hb1.out⟩
set_option maxRecDepth 100000 in
theorem hascol_any (t : Tb) (s : ByteArray) (w : World) (hA : TabAt w w.heap.size t) (hl : t.cols.length ≤ 1000000) :
    Calls Tryz.prog 90 #[TV t, .string s] w fun e w' => e = .returned (.bool (colI t s).isSome) ∧ Below w.heap.size w w' := by
  have hb0 := Lib.hid (below_one w (.cells (fT t).toArray 51))
  have HC := Lib.hid (scol_any t s _ (RowAt.to hA hb0.out) hl); clear hA
  obtain ⟨i, hi⟩ := fst_bool (colI t s)
  rw [hi] at HC; clear hi
  go_enter Tryz.func90, Tryz.ntmps90
  go_wp2_with fail
  refine HC.out.mono ?_
  rintro e w1 ⟨rfl, hb1⟩
  have Hb1 := Lib.hid (bthen hb0.out hb1); clear hb1
  go_wp2_with fail
  go_ret
  exact ⟨rfl, Hb1.out⟩
theorem countP_take {α : Type} (p : α → Bool) (l : List α) (k : Nat) (x : α) (hx : l[k]? = some x) : (l.take (k + 1)).countP p = (l.take k).countP p + (if p x then 1 else 0) := by
  rw [List.take_add_one, hx, List.countP_append]
  simp [List.countP_cons]
set_option maxRecDepth 100000 in
set_option maxHeartbeats 1000000 in
theorem before_any (A : Option Addr) (cp : Nat) (l : List Tb) (id : Int) (w : World) (hA : TabsAt w w.heap.size A l) (hl : l.length ≤ 1000000) :
    Calls Tryz.prog 66 #[.agg #[.slice A l.length cp], .int .i64 id] w fun e w' => e = .returned (.int .i64 ((l.countP fun t => decide (t.id < id) : Nat) : Int)) ∧ Below w.heap.size w w' := by
  obtain ⟨w0, hw0, hb0, hB, hs0⟩ := box_one w (.slice A l.length cp) 24
  have Hw0 := Lib.hid hw0; clear hw0
  have Hb0 := Lib.hid hb0
  have HA := Lib.hid (hA.to hb0); clear hA hb0
  have c0 := hB.one; clear hB
  clear hs0
  go_enter Tryz.func66, Tryz.ntmps66
  go_wp2_with fail
  rw [Hw0.out]
  clear c0
  go_loopw [5, 11] (fun v i wr => ∃ k : Nat, k ≤ l.length ∧ i = .int .i64 k ∧ v = .int .i64 (((l.take k).countP fun t => decide (t.id < id) : Nat) : Int) ∧ Hid (Below w0.heap.size w0 wr)) (fun _ i _ => l.length - (intOf i).toNat)
  case atStart => exact ⟨0, by omega, rfl, by simp, Below.refl _ _⟩
  case round =>
    obtain ⟨k, hk, rfl, rfl, hb⟩ := hrel
    by_cases hlt : k < l.length
    · obtain ⟨t, ht⟩ : ∃ t, l[k]? = some t := ⟨l[k], by simp [hlt]⟩
      have Hn := Lib.hid (countP_take (fun t : Tb => decide (t.id < id)) l k t ht)
      have hle : (l.take k).countP (fun t : Tb => decide (t.id < id)) ≤ k := Nat.le_trans List.countP_le_length (by rw [List.length_take]; omega)
      obtain ⟨b, off, rfl, hbB, d0, d1, d2, d3, d4⟩ := TabsAt.get (HA.out.below hb.out) k t ht
      obtain ⟨w2, hw2, hb2, hX, hs2⟩ := box_tab wr t
      have Hw2 := Lib.hid hw2; clear hw2
      have Hb2 := Lib.hid (bthen hb.out hb2); clear hb2 hX hs2 ht
      generalize (l.take k).countP (fun t : Tb => decide (t.id < id)) = q at Hn hle ⊢
      by_cases hc : t.id < id
      · have hd : decide (t.id < id) = true := by simp [hc]
        simp only [hd, if_true] at Hn
        clear hd
        go_wp2_with fail
        rw [Hw2.out]
        go_round
        case rel => exact ⟨k + 1, by omega, by go_num, by rw [Hn.out]; go_num, Hb2.out⟩
        case measure => simp [intOf]; omega
      · have hd : decide (t.id < id) = false := by simp [hc]
        simp only [hd] at Hn
        clear hd
        go_wp2_with fail
        rw [Hw2.out]
        go_round
        case rel => exact ⟨k + 1, by omega, by go_num, by rw [Hn.out]; go_num, Hb2.out⟩
        case measure => simp [intOf]; omega
    · have hlt' : decide ((k : Int) < (l.length : Int)) = false := by simp; omega
      obtain rfl : k = l.length := by omega
      have He : Hid (l.take l.length = l) := List.take_length
      have Hb3 := Lib.hid (bthen Hb0.out hb.out)
      generalize hq : (l.take l.length).countP (fun t : Tb => decide (t.id < id)) = q
      rw [He.out] at hq
      have Hq := Lib.hid hq
      clear hq
      go_wp2_with fail
      go_ret
      exact ⟨by rw [Hq.out]; rfl, Hb3.out⟩
end Go.Proofs.YthmjgaekcghonaaGreatDoor

/-
  Contracts of package slices at tables and columns: Clone, Delete of one, Equal.
-/
namespace Go.Proofs.YthmjgaekcghonaaGreatDoor
open Go.RowKit

theorem RowAt.nil {α : Type} {m : Nat} {f : α → List Value} {w : World} {B : Nat} {l : List α} (h : RowAt m f w B none l) : l = [] := by
  cases l with
  | nil => rfl
  | cons y r =>
    obtain ⟨_, _, h3, _⟩ := h (by simp)
    cases h3
/-- a row by its cells -/
theorem own_of_cells {α : Type} {T : TypeId} {m : Nat} {f : α → List Value} (hm : ∀ x, (f x).length = m) {w : World} {B g cap : Nat} {l : List α} {cur : Array Value} (hg : w.heap[g]? = some (.cells cur T (0, 0))) (hB : B ≤ g) (hcap : l.length ≤ cap) (hmax : cap ≤ maxLen) (hsz : cur.size = cap * m)
    (hc : ∀ j x i v, l[j]? = some x → (f x)[i]? = some v → w.cell? ⟨g, j * m + i, none⟩ = some v) : OwnR T m f w B (.slice (some ⟨g, 0, none⟩) l.length cap) l := by
  refine ⟨flat_length hm l, .inr ⟨g, cap, cur, rfl, hB, hg, hcap, hmax, hsz, ?_⟩⟩
  have hlen : (cur.toList.take (l.length * m)).length = (flt f l).length := by
    have h1 := Nat.mul_le_mul_right m hcap
    have h2 : cur.toList.length = cap * m := by simpa using hsz
    rw [List.length_take, flat_length hm, h2]
    omega
  refine List.ext_getElem? fun p => ?_
  by_cases hp : p < (flt f l).length
  · have := flat_all hm (Q := fun p u => w.cell? ⟨g, p, none⟩ = some u) l hc p _ (List.getElem?_eq_getElem hp)
    rw [cell_of_row w g p cur T (0, 0) hg] at this
    rw [List.getElem?_eq_getElem hp, List.getElem?_take, if_pos (by rw [← flat_length hm l]; exact hp), Array.getElem?_toList]
    exact this
  · rw [List.getElem?_eq_none (by omega), List.getElem?_eq_none (by omega)]
theorem setCells_block (g : Nat) (T : TypeId) : ∀ (vs : List Value) (o : Nat) (w : World) (cur : Array Value), w.heap[g]? = some (.cells cur T (0, 0)) → ∃ cur', (w.setCells g o vs).heap[g]? = some (.cells cur' T (0, 0)) ∧ cur'.size = cur.size
  | [], _, w, cur, h => ⟨cur, h, rfl⟩
  | v :: r, o, w, cur, h => by
    obtain ⟨c, h1, h2⟩ := setCells_block g T r (o + 1) (w.setCell ⟨g, o, none⟩ v) _ (heap_setCell_same w g o cur T v h)
    exact ⟨c, h1, by rw [h2]; simp⟩
theorem off_setCells (g : Nat) : ∀ (vs : List Value) (o : Nat) (w : World), Off (fun k => k = g) w (w.setCells g o vs)
  | [], _, w => Off.refl _ w
  | v :: r, o, w => (Off.set w g o v).trans (off_setCells g r (o + 1) _)
theorem off_drew {S : Nat → Prop} (w : World) : Off S w w.drew := ⟨rfl, rfl, rfl, Nat.le_refl _, fun _ _ _ => rfl⟩
/-- 'copy' at elements of any number of cells -/
theorem run_copy_cellsK {m : Nat} (w : World) (dT sT ty elem : TypeId) (b o dLen dCap : Nat) (a : Addr) (sLen sCap : Nat) (cs : List Value)
    (hu : Tryz.prog.underlying dT = some (.slice elem)) (hs : (Tryz.prog.info? elem).map (·.size) = some m) (hn : cs.length = Nat.min sLen dLen * m)
    (hsrc : ∀ j v, cs[j]? = some v → w.cell? (a.add j) = some v) (hc : ∀ j, j < cs.length → (w.cell? ⟨b, o + j, none⟩).isSome = true) (hf : ∀ j, j < cs.length → w.frozen? ⟨b, o + j, none⟩ = false) (h1 : ∀ v ∈ cs, v.oneCell' = true) :
    (Builtin.copy_ #[dT, sT] ty #[.slice (some ⟨b, o, none⟩) dLen dCap, .slice (some a) sLen sCap]).run Tryz.prog w = .ok (goInt (Nat.min sLen dLen)) (w.setCells b o cs) := by
  have hl := run_loadCells_list (P := Tryz.prog) w a cs hsrc
  have hst := run_storeCells_cells (P := Tryz.prog) b o cs 0 w (by simpa using hc) (by simpa using hf) h1
  cases hq : Tryz.prog.info? elem with
  | none => simp [hq] at hs
  | some i =>
    have hi : i.size = m := by simpa [hq] using hs
    subst hi
    simp [Builtin.copy_, run_underlying hu, Builtin.lenOf, Builtin.firstCells, sizeOf, typeInfo, hq, ← hn, hl, hst]
/-- 'clear' of one element of any number of cells -/
theorem run_clear_one (w : World) (t e ty : TypeId) (z : Value) (ht : Tryz.prog.underlying t = some (.slice e)) (hv : ∀ w, (zeroValue e).run Tryz.prog w = .ok z w) (h1 : ∀ v ∈ z.cells.toList, v.oneCell' = true) (b o c : Nat)
    (hc : ∀ j, j < z.cells.size → (w.cell? ⟨b, o + j, none⟩).isSome = true) (hf : ∀ j, j < z.cells.size → w.frozen? ⟨b, o + j, none⟩ = false) :
    (Builtin.clear_ #[t] ty #[.slice (some ⟨b, o, none⟩) 1 c]).run Tryz.prog w = .ok (.tuple #[]) (w.setCells b o z.cells.toList) := by
  have hzc : (Builtin.zeroCells z.cells 1).toList = z.cells.toList := by
    simp [Builtin.zeroCells]
    apply List.ext_getElem
    · simp
    · intro i h1 h2
      simp at h1
      simp [Nat.mod_eq_of_lt h1, getElem!_pos z.cells i h1]
  have hst := run_storeCells_cells (P := Tryz.prog) b o z.cells.toList 0 w (by simpa using hc) (by simpa using hf) h1
  simp only [Nat.add_zero] at hst
  simp [Builtin.clear_, run_underlying ht, hv, hzc, hst]
theorem erase_get {α : Type} (l : List α) (k j : Nat) : (l.eraseIdx k)[j]? = if j < k then l[j]? else l[j + 1]? := by
  rw [List.getElem?_eraseIdx]

set_option maxRecDepth 100000 in
theorem cclone_any (A : Option Addr) (cp : Nat) (vs : List Cb) (w : World) (hA : RowAt 8 fC w w.heap.size A vs) (hl : vs.length ≤ 1000000) :
    Calls Tryz.prog 38 #[.slice A vs.length cp] w fun e w' => ∃ v, e = .returned v ∧ OwnC w' w.heap.size v vs ∧ Below w.heap.size w w' := by
  have q : ∀ (w : World) (a : Option Addr) (n c n' c' : Nat), (binOp .eql 29 (.slice a n c) (.slice none n' c')).run Tryz.prog w = .ok (.bool a.isNone) w := fun w a n c n' c' => Lib.run_eql_slice_nil w _ _ a n c n' c' Tryz.underlying29
  cases A with
  | none =>
    obtain rfl := hA.nil
    clear hA
    go_enter Tryz.func38, Tryz.ntmps38
    go_wp2_with fail
    go_ret
    exact ⟨_, rfl, OwnR.nil _ _ _ _ _, Below.refl _ _⟩
  | some ad =>
    have HA := Lib.hid (hA.to ((Below.refl w.heap.size w).alloc (Nat.le_refl _) (.cells #[] 63))); clear hA
    have HO := Lib.hid (OwnR.lit0 63 8 fC w w.heap.size (Nat.le_refl _))
    go_enter Tryz.func38, Tryz.ntmps38
    go_wp2_with (at_builtin; refine wpList_append_rows Tryz.underlying29 infoC rfl (by decide) (by decide) lenC oneC rfl _ _ rfl w.heap.size _ [] (some ad) _ cp vs HO.out rfl rfl rfl (fun h => by cases h) HA.out (by simp; omega) (by simp) ?_; intro v1 w1 ho1 hg1)
    go_ret
    exact ⟨_, rfl, ho1, ((Below.refl w.heap.size w).alloc (Nat.le_refl _) _).grown hg1 (by simp) (by intro k hk; simp [Value.ownBlock] at hk; omega)⟩
set_option maxRecDepth 1000000 in
set_option maxHeartbeats 4000000 in
theorem cdel_any (g cap k : Nat) (l : List Cb) (w : World) (B : Nat) (hO : OwnC w B (.slice (some ⟨g, 0, none⟩) l.length cap) l) (hk : k < l.length) (hl : l.length ≤ 1000000) :
    Calls Tryz.prog 95 #[.slice (some ⟨g, 0, none⟩) l.length cap, .int .i64 (k : Int), .int .i64 ((k : Int) + 1)] w fun e w' =>
      e = .returned (.slice (some ⟨g, 0, none⟩) (l.length - 1) cap) ∧ OwnC w' B (.slice (some ⟨g, 0, none⟩) (l.length - 1) cap) (l.eraseIdx k) ∧ Off (fun x => x = g) w w' := by
  have hO' := hO
  obtain ⟨_, h0 | ⟨g', cap', cur, hsl, hB, hcur, hcap, hmax, hcs, _⟩⟩ := hO'
  · omega
  cases hsl
  have hm63 : cap ≤ 9223372036854775807 := by unfold maxLen at hmax; omega
  have hcell : ∀ j, j < cap * 8 → (w.cell? ⟨g, j, none⟩).isSome = true := fun j hj => by
    rw [cell_of_row w g j cur _ (0, 0) hcur, Array.getElem?_eq_getElem (by omega)]; rfl
  have hfro : ∀ j, w.frozen? ⟨g, j, none⟩ = false := fun j => frozen_of_row w g j cur _ hcur
  obtain ⟨i0, hi0, hz0, hz1, hz2⟩ := info_parts infoC
  -- the cells that are moved to the left
  obtain ⟨news, hnews⟩ : ∃ news, news = flt fC (l.drop (k + 1)) := ⟨_, rfl⟩
  have hlen : news.length = (l.length - (k + 1)) * 8 := by rw [hnews, flat_length lenC, List.length_drop]
  have hget : ∀ t u, news[t]? = some u → w.cell? ⟨g, (k + 1) * 8 + t, none⟩ = some u := by
    rw [hnews]
    refine flat_all lenC _ fun j x i v hj hv => ?_
    rw [show (k + 1) * 8 + (j * 8 + i) = (k + 1 + j) * 8 + i by omega]
    exact hO.cell lenC (by rwa [List.getElem?_drop] at hj) hv
  obtain ⟨A, hA, hsrc⟩ : ∃ A : Addr, (if cap = k + 1 then some (⟨g, 0, none⟩ : Addr) else some ⟨g, (k + 1) * 8, none⟩) = some A ∧ Hid (∀ t u, news[t]? = some u → w.drew.cell? (A.add t) = some u) := by
    by_cases h : cap = k + 1
    · refine ⟨⟨g, 0, none⟩, by simp [h], fun t u hu => ?_⟩
      have h0 : news.length = 0 := by rw [hlen]; omega
      rw [List.length_eq_zero_iff.1 h0] at hu
      simp at hu
    · refine ⟨⟨g, (k + 1) * 8, none⟩, by simp [h], fun t u hu => ?_⟩
      rw [Addr.add_lit]
      exact hget t u hu
  have s1 : Hid (news.length = (l.length - (k + 1)) * 8) := hlen
  have s2 : Hid (∀ u ∈ news, u.oneCell' = true) := by
    rw [hnews]
    exact flat_mem oneC _
  have s3 : Hid (∀ t, t < news.length → (w.drew.cell? ⟨g, 0 + k * 8 + t, none⟩).isSome = true ∧ w.drew.frozen? ⟨g, 0 + k * 8 + t, none⟩ = false) := by
    intro t ht
    rw [hlen] at ht
    exact ⟨hcell _ (by omega), hfro _⟩
  obtain ⟨W1, hW1⟩ : ∃ W1, W1 = w.drew.setCells g (0 + k * 8) news := ⟨_, rfl⟩
  obtain ⟨cur1, hcur1, hcs1⟩ : ∃ cur1, W1.heap[g]? = some (.cells cur1 63 (0, 0)) ∧ cur1.size = cur.size := by
    rw [hW1]; exact setCells_block g _ news _ w.drew cur hcur
  have hcell1 : ∀ j, j < cap * 8 → (W1.cell? ⟨g, j, none⟩).isSome = true := fun j hj => by
    rw [cell_of_row W1 g j cur1 _ (0, 0) hcur1, Array.getElem?_eq_getElem (by omega)]; rfl
  have hfro1 : ∀ j, W1.frozen? ⟨g, j, none⟩ = false := fun j => frozen_of_row W1 g j cur1 _ hcur1
  obtain ⟨Z, hZ⟩ : ∃ Z : List Value, Z = (.agg #[.int .i64 0, .string ByteArray.empty, .int .i64 0, .int .i64 0, .bool false, .int .i64 0, .int .i64 0, .string ByteArray.empty] : Value).cells.toList := ⟨_, rfl⟩
  have hZl : Z.length = 8 := by rw [hZ]; rfl
  have hcl : ∀ ty c, (Builtin.clear_ #[29] ty #[.slice (some ⟨g, (l.length - 1) * 8, none⟩) 1 c]).run Tryz.prog W1 = .ok (.tuple #[]) (W1.setCells g ((l.length - 1) * 8) Z) := fun ty c => by
    rw [hZ]
    exact run_clear_one W1 _ _ ty _ Tryz.underlying29 (fun w => by simp [zeroValue, typeInfo, hi0, hz0]) (by decide) g _ c (fun j hj => hcell1 _ (by have : j < 8 := hj; omega)) (fun j _ => hfro1 _)
  have hW : Hid (W1 = w.drew.setCells g (0 + k * 8) news) := hW1
  have Hend : Hid (OwnC (W1.setCells g ((l.length - 1) * 8) Z) B (.slice (some ⟨g, 0, none⟩) (l.length - 1) cap) (l.eraseIdx k) ∧ Off (fun x => x = g) w (W1.setCells g ((l.length - 1) * 8) Z)) := by
    obtain ⟨cur2, hcur2, hcs2⟩ := setCells_block g 63 Z ((l.length - 1) * 8) W1 cur1 hcur1
    have hel : (l.eraseIdx k).length = l.length - 1 := by rw [List.length_eraseIdx, if_pos hk]
    refine ⟨?_, ?_⟩
    · suffices h : OwnC (W1.setCells g ((l.length - 1) * 8) Z) B (.slice (some ⟨g, 0, none⟩) (l.eraseIdx k).length cap) (l.eraseIdx k) by rwa [hel] at h
      refine own_of_cells lenC hcur2 hB (by omega) hmax (by rw [hcs2, hcs1, hcs]) fun j x i v hj hv => ?_
      have hi : i < 8 := by have := (List.getElem?_eq_some_iff.1 hv).1; rwa [lenC] at this
      have hjl : j < l.length - 1 := by have := (List.getElem?_eq_some_iff.1 hj).1; omega
      rw [World.cell?_setCells_out g Z _ W1 _ (fun _ _ => .inl (by show j * 8 + i < _; omega)), hW1]
      rw [erase_get] at hj
      by_cases hjk : j < k
      · rw [if_pos hjk] at hj
        rw [World.cell?_setCells_out g news _ w.drew _ (fun _ _ => .inl (by show j * 8 + i < _; omega))]
        exact hO.cell lenC hj hv
      · rw [if_neg hjk] at hj
        have hin : (j - k) * 8 + i < news.length := by rw [hlen]; omega
        have := World.cell?_setCells_in g news (0 + k * 8) w.drew (fun t ht => (s3.out t ht).1) ((j - k) * 8 + i) hin
        rw [show 0 + k * 8 + ((j - k) * 8 + i) = j * 8 + i by omega] at this
        rw [this]
        have h2 := flat_get lenC (l.drop (k + 1)) (j - k) x i v (by rw [List.getElem?_drop, show k + 1 + (j - k) = j + 1 by omega]; exact hj) hv
        rw [← hnews, List.getElem?_eq_getElem hin] at h2
        exact h2
    · rw [hW1]
      exact ((off_drew w).trans (off_setCells g _ _ _)).trans (off_setCells g _ _ _)
  have hwk : IntKind.i64.wrap ((k : Int) + 1) = (k : Int) + 1 := by rw [IntKind.wrap_i64]; omega
  have htn : ((k : Int) + 1).toNat = k + 1 := by omega
  have hk1 : (k : Int) + 1 ≤ (l.length : Int) := by omega
  have hk2 : (0 : Int) ≤ (k : Int) + 1 := by omega
  have hne : ¬ ((k : Int) = (k : Int) + 1) := by omega
  have hkc : (k : Int) ≤ (cap : Int) := by omega
  have hkl : (k : Int) ≤ (l.length : Int) := by omega
  have hkk : (k : Int) ≤ (k : Int) + 1 := by omega
  have hlc : (l.length : Int) ≤ (cap : Int) := by omega
  have htl : l.length - (l.length - 1) = 1 := by omega
  have htk : k + (l.length - (k + 1)) = l.length - 1 := by omega
  clear hW1 hO hget hnews hcell hfro hcur hcur1 hcs hcs1 hcell1 hfro1 hlen hZ hZl
  go_enter Tryz.func95, Tryz.ntmps95
  go_wp2_with fail
  go_region_law (refine step_append_room rfl (.tmp 22) (.tmp 25) 29 rfl 63 i0 8 Tryz.underlying29 hi0 hz1 g 0 k cap (by simp [Act.eval, Act.put]) A (l.length - (k + 1)) (cap - (k + 1)) news (by simp [Act.eval, Act.put]) s1.out hsrc.out s2.out (by omega) s3.out ?_; rw [← hW.out])
  go_wp2
  go_ret
  exact ⟨rfl, Hend.out.1, Hend.out.2⟩

set_option maxRecDepth 100000 in
theorem tclone_any (A : Option Addr) (cp : Nat) (vs : List Tb) (w : World) (hA : RowAt 5 fT w w.heap.size A vs) (hl : vs.length ≤ 1000000) :
    Calls Tryz.prog 37 #[.slice A vs.length cp] w fun e w' => ∃ v, e = .returned v ∧ OwnTb w' w.heap.size v vs ∧ Below w.heap.size w w' := by
  have q : ∀ (w : World) (a : Option Addr) (n c n' c' : Nat), (binOp .eql 22 (.slice a n c) (.slice none n' c')).run Tryz.prog w = .ok (.bool a.isNone) w := fun w a n c n' c' => Lib.run_eql_slice_nil w _ _ a n c n' c' Tryz.underlying22
  cases A with
  | none =>
    obtain rfl := hA.nil
    clear hA
    go_enter Tryz.func37, Tryz.ntmps37
    go_wp2_with fail
    go_ret
    exact ⟨_, rfl, OwnR.nil _ _ _ _ _, Below.refl _ _⟩
  | some ad =>
    have HA := Lib.hid (hA.to ((Below.refl w.heap.size w).alloc (Nat.le_refl _) (.cells #[] 51))); clear hA
    have HO := Lib.hid (OwnR.lit0 51 5 fT w w.heap.size (Nat.le_refl _))
    go_enter Tryz.func37, Tryz.ntmps37
    go_wp2_with (at_builtin; refine wpList_append_rows Tryz.underlying22 infoTb rfl (by decide) (by decide) lenT oneT rfl _ _ rfl w.heap.size _ [] (some ad) _ cp vs HO.out rfl rfl rfl (fun h => by cases h) HA.out (by simp; omega) (by simp) ?_; intro v1 w1 ho1 hg1)
    go_ret
    exact ⟨_, rfl, ho1, ((Below.refl w.heap.size w).alloc (Nat.le_refl _) _).grown hg1 (by simp) (by intro k hk; simp [Value.ownBlock] at hk; omega)⟩
set_option maxRecDepth 1000000 in
set_option maxHeartbeats 4000000 in
theorem tdel_any (g cap k : Nat) (l : List Tb) (w : World) (B : Nat) (hO : OwnTb w B (.slice (some ⟨g, 0, none⟩) l.length cap) l) (hk : k < l.length) (hl : l.length ≤ 1000000) :
    Calls Tryz.prog 41 #[.slice (some ⟨g, 0, none⟩) l.length cap, .int .i64 (k : Int), .int .i64 ((k : Int) + 1)] w fun e w' =>
      e = .returned (.slice (some ⟨g, 0, none⟩) (l.length - 1) cap) ∧ OwnTb w' B (.slice (some ⟨g, 0, none⟩) (l.length - 1) cap) (l.eraseIdx k) ∧ Off (fun x => x = g) w w' := by
  have hO' := hO
  obtain ⟨_, h0 | ⟨g', cap', cur, hsl, hB, hcur, hcap, hmax, hcs, _⟩⟩ := hO'
  · omega
  cases hsl
  have hm63 : cap ≤ 9223372036854775807 := by unfold maxLen at hmax; omega
  have hcell : ∀ j, j < cap * 5 → (w.cell? ⟨g, j, none⟩).isSome = true := fun j hj => by
    rw [cell_of_row w g j cur _ (0, 0) hcur, Array.getElem?_eq_getElem (by omega)]; rfl
  have hfro : ∀ j, w.frozen? ⟨g, j, none⟩ = false := fun j => frozen_of_row w g j cur _ hcur
  obtain ⟨i0, hi0, hz0, hz1, hz2⟩ := info_parts infoTb
  -- the cells that are moved to the left
  obtain ⟨news, hnews⟩ : ∃ news, news = flt fT (l.drop (k + 1)) := ⟨_, rfl⟩
  have hlen : news.length = (l.length - (k + 1)) * 5 := by rw [hnews, flat_length lenT, List.length_drop]
  have hget : ∀ t u, news[t]? = some u → w.cell? ⟨g, (k + 1) * 5 + t, none⟩ = some u := by
    rw [hnews]
    refine flat_all lenT _ fun j x i v hj hv => ?_
    rw [show (k + 1) * 5 + (j * 5 + i) = (k + 1 + j) * 5 + i by omega]
    exact hO.cell lenT (by rwa [List.getElem?_drop] at hj) hv
  obtain ⟨A, hA, hsrc⟩ : ∃ A : Addr, (if cap = k + 1 then some (⟨g, 0, none⟩ : Addr) else some ⟨g, (k + 1) * 5, none⟩) = some A ∧ Hid (∀ t u, news[t]? = some u → w.drew.cell? (A.add t) = some u) := by
    by_cases h : cap = k + 1
    · refine ⟨⟨g, 0, none⟩, by simp [h], fun t u hu => ?_⟩
      have h0 : news.length = 0 := by rw [hlen]; omega
      rw [List.length_eq_zero_iff.1 h0] at hu
      simp at hu
    · refine ⟨⟨g, (k + 1) * 5, none⟩, by simp [h], fun t u hu => ?_⟩
      rw [Addr.add_lit]
      exact hget t u hu
  have s1 : Hid (news.length = (l.length - (k + 1)) * 5) := hlen
  have s2 : Hid (∀ u ∈ news, u.oneCell' = true) := by
    rw [hnews]
    exact flat_mem oneT _
  have s3 : Hid (∀ t, t < news.length → (w.drew.cell? ⟨g, 0 + k * 5 + t, none⟩).isSome = true ∧ w.drew.frozen? ⟨g, 0 + k * 5 + t, none⟩ = false) := by
    intro t ht
    rw [hlen] at ht
    exact ⟨hcell _ (by omega), hfro _⟩
  obtain ⟨W1, hW1⟩ : ∃ W1, W1 = w.drew.setCells g (0 + k * 5) news := ⟨_, rfl⟩
  obtain ⟨cur1, hcur1, hcs1⟩ : ∃ cur1, W1.heap[g]? = some (.cells cur1 51 (0, 0)) ∧ cur1.size = cur.size := by
    rw [hW1]; exact setCells_block g _ news _ w.drew cur hcur
  have hcell1 : ∀ j, j < cap * 5 → (W1.cell? ⟨g, j, none⟩).isSome = true := fun j hj => by
    rw [cell_of_row W1 g j cur1 _ (0, 0) hcur1, Array.getElem?_eq_getElem (by omega)]; rfl
  have hfro1 : ∀ j, W1.frozen? ⟨g, j, none⟩ = false := fun j => frozen_of_row W1 g j cur1 _ hcur1
  obtain ⟨Z, hZ⟩ : ∃ Z : List Value, Z = (.agg #[.int .i64 0, .string ByteArray.empty, .int .i64 0, .int .i64 0, .slice none 0 0] : Value).cells.toList := ⟨_, rfl⟩
  have hZl : Z.length = 5 := by rw [hZ]; rfl
  have hcl : ∀ ty c, (Builtin.clear_ #[22] ty #[.slice (some ⟨g, (l.length - 1) * 5, none⟩) 1 c]).run Tryz.prog W1 = .ok (.tuple #[]) (W1.setCells g ((l.length - 1) * 5) Z) := fun ty c => by
    rw [hZ]
    exact run_clear_one W1 _ _ ty _ Tryz.underlying22 (fun w => by simp [zeroValue, typeInfo, hi0, hz0]) (by decide) g _ c (fun j hj => hcell1 _ (by have : j < 5 := hj; omega)) (fun j _ => hfro1 _)
  have hW : Hid (W1 = w.drew.setCells g (0 + k * 5) news) := hW1
  have Hend : Hid (OwnTb (W1.setCells g ((l.length - 1) * 5) Z) B (.slice (some ⟨g, 0, none⟩) (l.length - 1) cap) (l.eraseIdx k) ∧ Off (fun x => x = g) w (W1.setCells g ((l.length - 1) * 5) Z)) := by
    obtain ⟨cur2, hcur2, hcs2⟩ := setCells_block g 51 Z ((l.length - 1) * 5) W1 cur1 hcur1
    have hel : (l.eraseIdx k).length = l.length - 1 := by rw [List.length_eraseIdx, if_pos hk]
    refine ⟨?_, ?_⟩
    · suffices h : OwnTb (W1.setCells g ((l.length - 1) * 5) Z) B (.slice (some ⟨g, 0, none⟩) (l.eraseIdx k).length cap) (l.eraseIdx k) by rwa [hel] at h
      refine own_of_cells lenT hcur2 hB (by omega) hmax (by rw [hcs2, hcs1, hcs]) fun j x i v hj hv => ?_
      have hi : i < 5 := by have := (List.getElem?_eq_some_iff.1 hv).1; rwa [lenT] at this
      have hjl : j < l.length - 1 := by have := (List.getElem?_eq_some_iff.1 hj).1; omega
      rw [World.cell?_setCells_out g Z _ W1 _ (fun _ _ => .inl (by show j * 5 + i < _; omega)), hW1]
      rw [erase_get] at hj
      by_cases hjk : j < k
      · rw [if_pos hjk] at hj
        rw [World.cell?_setCells_out g news _ w.drew _ (fun _ _ => .inl (by show j * 5 + i < _; omega))]
        exact hO.cell lenT hj hv
      · rw [if_neg hjk] at hj
        have hin : (j - k) * 5 + i < news.length := by rw [hlen]; omega
        have := World.cell?_setCells_in g news (0 + k * 5) w.drew (fun t ht => (s3.out t ht).1) ((j - k) * 5 + i) hin
        rw [show 0 + k * 5 + ((j - k) * 5 + i) = j * 5 + i by omega] at this
        rw [this]
        have h2 := flat_get lenT (l.drop (k + 1)) (j - k) x i v (by rw [List.getElem?_drop, show k + 1 + (j - k) = j + 1 by omega]; exact hj) hv
        rw [← hnews, List.getElem?_eq_getElem hin] at h2
        exact h2
    · rw [hW1]
      exact ((off_drew w).trans (off_setCells g _ _ _)).trans (off_setCells g _ _ _)
  have hwk : IntKind.i64.wrap ((k : Int) + 1) = (k : Int) + 1 := by rw [IntKind.wrap_i64]; omega
  have htn : ((k : Int) + 1).toNat = k + 1 := by omega
  have hk1 : (k : Int) + 1 ≤ (l.length : Int) := by omega
  have hk2 : (0 : Int) ≤ (k : Int) + 1 := by omega
  have hne : ¬ ((k : Int) = (k : Int) + 1) := by omega
  have hkc : (k : Int) ≤ (cap : Int) := by omega
  have hkl : (k : Int) ≤ (l.length : Int) := by omega
  have hkk : (k : Int) ≤ (k : Int) + 1 := by omega
  have hlc : (l.length : Int) ≤ (cap : Int) := by omega
  have htl : l.length - (l.length - 1) = 1 := by omega
  have htk : k + (l.length - (k + 1)) = l.length - 1 := by omega
  clear hW1 hO hget hnews hcell hfro hcur hcur1 hcs hcs1 hcell1 hfro1 hlen hZ hZl
  go_enter Tryz.func41, Tryz.ntmps41
  go_wp2_with fail
  go_region_law (refine step_append_room rfl (.tmp 22) (.tmp 25) 22 rfl 51 i0 5 Tryz.underlying22 hi0 hz1 g 0 k cap (by simp [Act.eval, Act.put]) A (l.length - (k + 1)) (cap - (k + 1)) news (by simp [Act.eval, Act.put]) s1.out hsrc.out s2.out (by omega) s3.out ?_; rw [← hW.out])
  go_wp2
  go_ret
  exact ⟨rfl, Hend.out.1, Hend.out.2⟩
end Go.Proofs.YthmjgaekcghonaaGreatDoor

/-
  Contract of package ddl's clone: a catalog of the call's own.
-/
namespace Go.Proofs.YthmjgaekcghonaaGreatDoor
open Go.RowKit

/-- the first k tables have columns of the call's own -/
structure Part (w : World) (B Bc : Nat) (v : Value) (l m : List Tb) (k : Nat) : Prop where
  len : m.length = k
  same : m.map Tb.p = (l.take k).map Tb.p
  row : OwnTb w B v (m ++ l.drop k)
  cols : ∀ t ∈ m, OwnC w Bc (.slice t.A t.cols.length t.cap) t.cols
  apart : ∀ (i j : Nat) s t, m[i]? = some s → m[j]? = some t → i ≠ j → ∀ x, colBk s = some x → colBk t ≠ some x
theorem Part.step {w w2 : World} {B Bc g n cap k : Nat} {l m : List Tb} {t t' : Tb} (h : Part w B Bc (.slice (some ⟨g, 0, none⟩) n cap) l m k) (hn : n = l.length) (hk : l[k]? = some t) (hgB : g < Bc) (hBw : Bc ≤ w.heap.size) (hb : Below w.heap.size w w2)
    (hc : OwnC w2 w.heap.size (.slice t'.A t'.cols.length t'.cap) t'.cols) (hp : t'.p = t.p) :
    Part (w2.setCell ⟨g, k * 5 + 4, none⟩ (.slice t'.A t'.cols.length t'.cap)) B Bc (.slice (some ⟨g, 0, none⟩) n cap) l (m ++ [t']) (k + 1) := by
  have hkl := (List.getElem?_eq_some_iff.1 hk).1
  have hO := Off.set w2 g (k * 5 + 4) (.slice t'.A t'.cols.length t'.cap)
  have hgw : g < w.heap.size := by omega
  have hd : l.drop k = t :: l.drop (k + 1) := by rw [← List.getElem_cons_drop hkl]; congr 1; exact (List.getElem?_eq_some_iff.1 hk).2
  have hml := h.len
  refine ⟨by simp [hml], ?_, ?_, fun s hs => ?_, fun i j s u hi hj hne x hx hy => ?_⟩
  · rw [List.map_append, h.same, List.take_add_one, hk]
    simp [hp]
  · have hrow := h.row.below hb
    have hlen : (m ++ l.drop k).length = n := by rw [List.length_append, List.length_drop, hml, hn]; omega
    have e : m ++ [t'] ++ l.drop (k + 1) = (m ++ l.drop k).set k t' := by
      rw [List.set_append_right _ _ (by omega), hml, Nat.sub_self, hd]; simp
    rw [e]
    rw [← hlen] at hrow ⊢
    obtain ⟨e1, e2, e3, e4⟩ : t'.id = t.id ∧ t'.nm = t.nm ∧ t'.key = t.key ∧ t'.nx = t.nx := by
      unfold Tb.p at hp
      simp only [Tp.mk.injEq] at hp
      exact ⟨hp.1, hp.2.1, hp.2.2.1, hp.2.2.2.1⟩
    exact hrow.set1 lenT (k := k) (i := 4) (x := t) (by rw [List.getElem?_append_right (by omega), hml, Nat.sub_self, hd]; rfl) (by omega) (by simp [fT, e1, e2, e3, e4])
  · rcases List.mem_append.1 hs with h1 | h1
    · refine ((h.cols s h1).below hb).off hO fun x hx e => ?_
      have := ((h.cols s h1).lt x hx).1
      omega
    · obtain rfl : s = t' := by simpa using h1
      refine (hc.off hO fun x hx e => ?_).mono hBw
      have := (hc.lt x hx).1
      omega
  · have get : ∀ (j : Nat) s, (m ++ [t'])[j]? = some s → (j = k ∧ s = t') ∨ (j < k ∧ m[j]? = some s) := fun j s hj => by
      by_cases hjk : j < k
      · rw [List.getElem?_append_left (by omega)] at hj
        exact .inr ⟨hjk, hj⟩
      · rw [List.getElem?_append_right (by omega)] at hj
        have h1 := (List.getElem?_eq_some_iff.1 hj).1
        simp at h1
        have : j = k := by omega
        subst this
        rw [hml, Nat.sub_self] at hj
        simp at hj
        exact .inl ⟨rfl, hj.symm⟩
    have old : ∀ (j : Nat) s, m[j]? = some s → ∀ x, colBk s = some x → x < w.heap.size := fun j s hj x hx => ((h.cols s (List.mem_of_getElem? hj)).lt x hx).2
    rcases get i s hi with ⟨rfl, rfl⟩ | ⟨h1, hi'⟩
    · rcases get j u hj with ⟨rfl, rfl⟩ | ⟨h2, hj'⟩
      · exact hne rfl
      · have := old j u hj' x hy
        have := (hc.lt x hx).1
        omega
    · rcases get j u hj with ⟨rfl, rfl⟩ | ⟨h2, hj'⟩
      · have := old i s hi' x hx
        have := (hc.lt x hy).1
        omega
      · exact h.apart i j s u hi' hj' hne x hx hy
theorem Part.done {w : World} {B Bc : Nat} {v : Value} {l m : List Tb} {k : Nat} (h : Part w B Bc v l m k) (hk : k = l.length) (hv : ∀ x, v.ownBlock = some x → x < Bc) (hB : B ≤ Bc) : OwnCat w B Bc v m ∧ m.map Tb.p = l.map Tb.p ∧ m.length = l.length := by
  subst hk
  have := h.row
  rw [List.drop_length, List.append_nil] at this
  exact ⟨⟨this, hv, hB, h.cols, h.apart⟩, by rw [h.same, List.take_length], h.len⟩
theorem Part.to {w w' : World} {B Bc : Nat} {v : Value} {l m : List Tb} {k : Nat} (h : Part w B Bc v l m k) (hb : Below w.heap.size w w') : Part w' B Bc v l m k :=
  ⟨h.len, h.same, h.row.below hb, fun t ht => (h.cols t ht).below hb, h.apart⟩
theorem Part.zero {w : World} {B Bc : Nat} {v : Value} {l : List Tb} (h : OwnTb w B v l) : Part w B Bc v l [] 0 :=
  ⟨rfl, rfl, by simpa using h, fun t ht => by simp at ht, fun i j s t hi => by simp at hi⟩
theorem bput {B g : Nat} {w w' : World} (h : Below B w w') (hg : B ≤ g) (j : Nat) (v : Value) : Below B w (w'.setCell ⟨g, j, none⟩ v) := h.setCell (p := ⟨g, j, none⟩) hg v
/-- the boxes of the parameter and the result -/
theorem box_cc (w : World) (v : Value) : ∃ w0, (w.alloc (.cells #[v] 24)).alloc (.cells #[.slice none 0 0] 24) = w0 ∧ Below w.heap.size w w0 ∧ w0.cell? ⟨w.heap.size, 0, none⟩ = some v ∧ w0.heap.size = w.heap.size + 2 ∧ w0.heap[w.heap.size + 1]? = some (.cells #[.slice none 0 0] 24 (0, 0)) :=
  ⟨_, rfl, below_two w _ _, keep_alloc (by simp) _, by simp, by have := heap_alloc_new (w.alloc (.cells #[v] 24)) (.cells #[.slice none 0 0] 24); simpa using this⟩
theorem box_one' (w : World) (v : Value) (ty : TypeId) : ∃ w0, w.alloc (.cells #[v] ty) = w0 ∧ Below w.heap.size w w0 ∧ w0.cell? ⟨w.heap.size, 0, none⟩ = some v ∧ w0.heap.size = w.heap.size + 1 :=
  ⟨_, rfl, below_one w _, by simp, by simp⟩
set_option maxRecDepth 100000 in
/-- a result that is a catalog -/
theorem results_c1 {fn : Func} {p : Tmp} (h : fn.results = #[.cell p 24]) (tmps : Array Value) (w : World) {b : Nat} {x : Value} (hp : tmps.getD p undef = .pointer (some ⟨b, 0, none⟩)) (hc : w.cell? ⟨b, 0, none⟩ = some x) :
    (results fn tmps).run Tryz.prog w = .ok (.agg #[x]) w := by
  have hp' : tmps[p]?.getD undef = .pointer (some ⟨b, 0, none⟩) := by simpa using hp
  simp [results, h, go_sem, hp', hc]
set_option maxRecDepth 100000 in
theorem results_c2 {fn : Func} {p u : Tmp} (h : fn.results = #[.cell p 24, .tmp u]) (tmps : Array Value) (w : World) {b : Nat} {x : Value} (hp : tmps.getD p undef = .pointer (some ⟨b, 0, none⟩)) (hc : w.cell? ⟨b, 0, none⟩ = some x) :
    (results fn tmps).run Tryz.prog w = .ok (.tuple #[.agg #[x], tmps.getD u undef]) w := by
  have hp' : tmps[p]?.getD undef = .pointer (some ⟨b, 0, none⟩) := by simpa using hp
  simp [results, h, go_sem, hp', hc]
set_option maxRecDepth 100000 in
theorem results_c3 {fn : Func} {p u v : Tmp} (h : fn.results = #[.cell p 24, .tmp u, .tmp v]) (tmps : Array Value) (w : World) {b : Nat} {x : Value} (hp : tmps.getD p undef = .pointer (some ⟨b, 0, none⟩)) (hc : w.cell? ⟨b, 0, none⟩ = some x) :
    (results fn tmps).run Tryz.prog w = .ok (.tuple #[.agg #[x], tmps.getD u undef, tmps.getD v undef]) w := by
  have hp' : tmps[p]?.getD undef = .pointer (some ⟨b, 0, none⟩) := by simpa using hp
  simp [results, h, go_sem, hp', hc]
set_option maxRecDepth 100000 in
set_option maxHeartbeats 4000000 in
theorem clone9_any (A : Option Addr) (cp : Nat) (l : List Tb) (w : World) (hA : TabsAt w w.heap.size A l) (hl : l.length ≤ 1000000) (hw : ∀ t ∈ l, t.cols.length ≤ 1000000) :
    Calls Tryz.prog 19 #[.agg #[.slice A l.length cp]] w fun e w' => ∃ A' cap' l' Bc, e = .returned (.agg #[.slice A' l.length cap']) ∧ OwnCat w' w.heap.size Bc (.slice A' l.length cap') l' ∧ l'.map Tb.p = l.map Tb.p ∧ l'.length = l.length ∧ Below w.heap.size w w' := by
  obtain ⟨w0, hw0, hb0, hc0, hs0, hr0⟩ := box_cc w (.slice A l.length cp)
  have Hw0 := Lib.hid hw0; clear hw0
  have Hb0 := Lib.hid hb0
  have HA := Lib.hid (hA.to hb0); clear hA hb0
  have Hs0 := Lib.hid hs0; clear hs0
  have Hr0 := Lib.hid hr0; clear hr0
  have HW := Lib.hid hw; clear hw
  have HC := Lib.hid (tclone_any A cp l w0 HA.out.1 hl)
  rw [← Hw0.out] at HC
  have Hc0 := Lib.hid hc0
  clear hc0
  go_enter Tryz.func19, Tryz.ntmps19
  go_wp2_with fail
  refine HC.out.mono ?_
  rintro e w1 ⟨v, rfl, ho1, hb1⟩
  rw [Hw0.out] at ho1 hb1
  clear HC
  obtain ⟨A1, cap1, rfl, hlc, hcm, _⟩ := ho1.form
  obtain ⟨w2, hw2, hb2, hc2, hs2⟩ := box_one' w1 (.slice A1 l.length cap1) 24
  have Hw2 := Lib.hid hw2; clear hw2
  have HO2 := Lib.hid (ho1.below hb2)
  have Hg := Lib.hid (show ∀ x, (Value.slice A1 l.length cap1).ownBlock = some x → x < w1.heap.size from fun x hx => (ho1.lt x hx).2)
  have Hb2 := Lib.hid (bthen hb1 hb2)
  have Hs1 := Lib.hid hb1.size
  have Hs2 := Lib.hid hs2
  have Hc2 := Lib.hid hc2
  clear ho1 hb1 hb2 hs2
  go_wp2_with fail
  rw [Hw2.out]
  clear hc2
  go_loopw [12] (fun i wr => ∃ (k : Nat) (m : List Tb), k ≤ l.length ∧ i = .int .i64 k ∧ Hid (Part wr w0.heap.size w2.heap.size (.slice A1 l.length cap1) l m k) ∧ Hid (Below w0.heap.size w0 wr) ∧ Hid (wr.cell? ⟨w1.heap.size, 0, none⟩ = some (.slice A1 l.length cap1)) ∧ Hid (w2.heap.size ≤ wr.heap.size)) (fun i _ => l.length - (intOf i).toNat)
  case atStart => exact ⟨0, [], by omega, rfl, Part.zero HO2.out, Hb2.out, Hc2.out, Nat.le_refl _⟩
  case round =>
    obtain ⟨k, m, hk, rfl, hp, hb, hcx, hsz⟩ := hrel
    by_cases hlt : k < l.length
    · obtain ⟨t, ht⟩ : ∃ t, l[k]? = some t := ⟨l[k], by simp [hlt]⟩
      have Ht := Lib.hid ht
      have Htm := Lib.hid (List.mem_of_getElem? ht)
      have Hm : Hid ((m ++ l.drop k)[k]? = some t ∧ (m ++ l.drop k).length = l.length) := ⟨by
        rw [List.getElem?_append_right (by rw [hp.out.len]; omega), hp.out.len, Nat.sub_self, List.getElem?_drop, Nat.add_zero]; exact ht, by rw [List.length_append, List.length_drop, hp.out.len]; omega⟩
      clear ht
      have HR0 := Lib.hid hp.out.row
      obtain ⟨g, cap, e, hg1, hg2, hg3, hg4⟩ := OwnR.shape HR0.out (by rw [Hm.out.2]; omega)
      rw [Hm.out.2] at e
      cases e
      have HR : Hid (OwnTb wr w0.heap.size (.slice (some ⟨g, 0, none⟩) (m ++ l.drop k).length cap1) (m ++ l.drop k)) := by
        show OwnTb _ _ _ _
        rw [Hm.out.2]; exact HR0.out
      have Hg1 : Hid (g < w1.heap.size) := Hg.out g rfl
      have d4 := HR.out.cell lenT (k := k) (i := 4) Hm.out.1 rfl
      have Hd4 := Lib.hid d4
      have c0 := hcx.out
      have hgne : g ≠ w1.heap.size := by have := Hg1.out; omega
      have HCl := Lib.hid (fun w' hA' => cclone_any t.A t.cap t.cols w' hA' (HW.out t Htm.out))
      have HAd : Hid (RowAt 8 fC wr.drew wr.drew.heap.size t.A t.cols) := RowAt.to (HA.out.2 t Htm.out) hb.out.drew
      have hk0 : (0 : Int) ≤ (k : Int) := by omega
      have hkI : (k : Int) < (l.length : Int) := by omega
      have hw1r : w1.heap.size < wr.heap.size := by have := Hs2.out; have := hsz.out; omega
      clear hg2 hg3
      go_wp2_with fail
      go_region_with (first
        | (go_at_call 38; refine (HCl.out _ HAd.out).mono ?_; rintro e w3 ⟨v3, rfl, ho3, hb3⟩; have Hb3 := Lib.hid ((Below.refl wr.heap.size wr).drew.trans hb3); obtain ⟨A3, cap3, rfl, _, _, _⟩ := ho3.form; have HO3 := Lib.hid (show OwnC w3 wr.heap.size _ t.cols from ho3); clear ho3 hb3; have HR3 := Lib.hid (HR.out.below Hb3.out); have x0 := (Hb3.out.cell (p := ⟨w1.heap.size, 0, none⟩) hw1r).trans hcx.out; have z4 := HR3.out.cell lenT (k := k) (i := 4) Hm.out.1 rfl; have f4 := HR3.out.frozen (k * 5 + 4))
        | fail)
      all_goals
        have HP3 := Lib.hid (hp.out.step rfl Ht.out (show g < w2.heap.size by have := Hg1.out; have := Hs2.out; omega) hsz.out Hb3.out (t' := ⟨t.id, t.nm, t.key, t.nx, A3, cap3, t.cols⟩) HO3.out rfl)
        have Hb5 := Lib.hid (bput (hb.out.trans (Hb3.out.mono (Nat.le_trans Hb2.out.size hsz.out))) hg1 (k * 5 + 4) (.slice A3 t.cols.length cap3))
        have Hc5 : Hid ((w3.setCell ⟨g, k * 5 + 4, none⟩ (.slice A3 t.cols.length cap3)).cell? ⟨w1.heap.size, 0, none⟩ = some (.slice (some ⟨g, 0, none⟩) l.length cap1)) :=
          (Off.set w3 g (k * 5 + 4) _).keep ((Hb3.out.cell (p := ⟨w1.heap.size, 0, none⟩) (by have := Hs2.out; have := hsz.out; show w1.heap.size < _; omega)).trans hcx.out) (fun e => hgne e.symm)
        have Hs5 : Hid (w2.heap.size ≤ (w3.setCell ⟨g, k * 5 + 4, none⟩ (.slice A3 t.cols.length cap3)).heap.size) := Nat.le_trans hsz.out (Nat.le_trans Hb3.out.size (Off.set w3 g (k * 5 + 4) _).size)
        clear z4 f4 x0
        go_wp2_with fail
        go_roundw
        case rel => exact ⟨k + 1, m ++ [⟨t.id, t.nm, t.key, t.nx, A3, cap3, t.cols⟩], by omega, by go_num, HP3, Hb5, Hc5, Hs5⟩
        case measure => simp [intOf]; omega
    · have hlt' : decide ((k : Int) < (l.length : Int)) = false := by simp; omega
      obtain rfl : k = l.length := by omega
      have c0 := hcx.out
      have Hr : Hid (wr.heap[w.heap.size + 1]? = some (.cells #[.slice none 0 0] 24 (0, 0))) := (hb.out.block _ (by have := Hs0.out; omega)).trans Hr0.out
      have c1 : wr.cell? ⟨w.heap.size + 1, 0, none⟩ = some (.slice none 0 0) := by rw [cell_of_row wr _ 0 _ _ (0, 0) Hr.out]; rfl
      have Hc1 := Lib.hid c1
      have c2 : wr.frozen? ⟨w.heap.size + 1, 0, none⟩ = false := frozen_of_row wr _ 0 _ _ Hr.out
      have HO := Lib.hid (hp.out.done rfl (fun x hx => by have := Hg.out x hx; have := Hs2.out; omega) Hb2.out.size)
      have HO6 : Hid (OwnCat (wr.setCell ⟨w.heap.size + 1, 0, none⟩ (.slice A1 l.length cap1)) w.heap.size w2.heap.size (.slice A1 l.length cap1) m) := by
        refine (HO.out.1.to_off (Off.set wr _ 0 _) fun x hx e => ?_).mono' (by have := Hs0.out; omega)
        have := (HO.out.1.lt x hx).1
        have := Hs0.out
        omega
      have Hb6 : Hid (Below w.heap.size w (wr.setCell ⟨w.heap.size + 1, 0, none⟩ (.slice A1 l.length cap1))) := bput (bthen Hb0.out hb.out) (by omega) 0 _
      go_wp2_with fail
      refine bodyPost_ret (results_c1 rfl _ _ rfl (World.cell?_setCell_same _ _ _ Hc1.out)) rfl ?_
      exact ⟨A1, cap1, m, w2.heap.size, rfl, HO6.out, HO.out.2.1, HO.out.2.2, Hb6.out⟩
end Go.Proofs.YthmjgaekcghonaaGreatDoor

/-
  Contract of package ddl's appendColumn.
-/
namespace Go.Proofs.YthmjgaekcghonaaGreatDoor
open Go.RowKit

/-- why a column may not be added to a table; 0 -/
def acolE (l : List Cb) (c : Cb) : Int :=
  if rightN (bs c.nm) = true then (if (colP l c.nm).isSome = true then 14 else if rightT c.tk c.tm = true then (if presetD c.tk c.tm c.dk c.dn c.ds = true then 0 else 10) else 9) else 8
theorem UTab.off {S : Nat → Prop} {w w' : World} (h : UTab w) (hw : Off S w w') (h1 : ¬ S 0) (h2 : ¬ S 1) : UTab w' :=
  ⟨fun i hi => hw.keep (h.1 i hi) h1, fun i hi => hw.keep (h.2 i hi) h2⟩
theorem rowat_new {α : Type} {m : Nat} {f : α → List Value} (w : World) (x : α) (ty : TypeId) : RowAt m f (w.alloc (.cells (f x).toArray ty)) (w.alloc (.cells (f x).toArray ty)).heap.size (some ⟨w.heap.size, 0, none⟩) [x] := fun _ =>
  ⟨w.heap.size, 0, rfl, by simp, fun j y hj i v hv => by
    cases j with
    | succ j => simp at hj
    | zero =>
      simp at hj; subst hj
      simp [hv]⟩
/-- a table with one column more -/
def Tb.more (t : Tb) (A : Option Addr) (cap : Nat) (c : Cb) : Tb := ⟨t.id, t.nm, t.key, t.nx + 1, A, cap, t.cols ++ [{ c with id := t.nx }]⟩
theorem tab_cells {w : World} {B g cap k : Nat} {l : List Tb} {t : Tb} (h : OwnTb w B (.slice (some ⟨g, 0, none⟩) l.length cap) l) (hk : l[k]? = some t) :
    w.cell? ⟨g, k * 5, none⟩ = some (.int .i64 t.id) ∧ w.cell? ⟨g, k * 5 + 1, none⟩ = some (.string t.nm) ∧ w.cell? ⟨g, k * 5 + 2, none⟩ = some (.int .i64 t.key) ∧ w.cell? ⟨g, k * 5 + 3, none⟩ = some (.int .i64 t.nx) ∧ w.cell? ⟨g, k * 5 + 4, none⟩ = some (.slice t.A t.cols.length t.cap) :=
  ⟨h.cell lenT (i := 0) hk rfl, h.cell lenT (i := 1) hk rfl, h.cell lenT (i := 2) hk rfl, h.cell lenT (i := 3) hk rfl, h.cell lenT (i := 4) hk rfl⟩
theorem col_cells {w : World} {B g cap k n : Nat} {l : List Cb} {c : Cb} (h : OwnC w B (.slice (some ⟨g, 0, none⟩) n cap) l) (hn : n = l.length) (hk : l[k]? = some c) :
    w.cell? ⟨g, k * 8, none⟩ = some (.int .i64 c.id) ∧ w.cell? ⟨g, k * 8 + 1, none⟩ = some (.string c.nm) ∧ w.cell? ⟨g, k * 8 + 2, none⟩ = some (.int .i64 c.tk) ∧ w.cell? ⟨g, k * 8 + 3, none⟩ = some (.int .i64 c.tm) ∧
    w.cell? ⟨g, k * 8 + 4, none⟩ = some (.bool c.nl) ∧ w.cell? ⟨g, k * 8 + 5, none⟩ = some (.int .i64 c.dk) ∧ w.cell? ⟨g, k * 8 + 6, none⟩ = some (.int .i64 c.dn) ∧ w.cell? ⟨g, k * 8 + 7, none⟩ = some (.string c.ds) := by
  subst hn
  exact ⟨h.cell lenC (i := 0) hk rfl, h.cell lenC (i := 1) hk rfl, h.cell lenC (i := 2) hk rfl, h.cell lenC (i := 3) hk rfl, h.cell lenC (i := 4) hk rfl, h.cell lenC (i := 5) hk rfl, h.cell lenC (i := 6) hk rfl, h.cell lenC (i := 7) hk rfl⟩
/-- a column in its box -/
theorem box_colO (w : World) (c : Cb) : ∃ w0, w.alloc (.cells #[.int .i64 c.id, .string c.nm, .int .i64 c.tk, .int .i64 c.tm, .bool c.nl, .int .i64 c.dk, .int .i64 c.dn, .string c.ds] 63) = w0 ∧ Below w.heap.size w w0 ∧ OwnC w0 w.heap.size (.slice (some ⟨w.heap.size, 0, none⟩) 1 1) [c] ∧ w0.heap.size = w.heap.size + 1 :=
  ⟨_, rfl, below_one w _, OwnR.box _ _ fC lenC w c, by simp⟩
theorem one_cells {w : World} {B g : Nat} {c : Cb} (h : OwnC w B (.slice (some ⟨g, 0, none⟩) 1 1) [c]) :
    w.cell? ⟨g, 0, none⟩ = some (.int .i64 c.id) ∧ w.cell? ⟨g, 1, none⟩ = some (.string c.nm) ∧ w.cell? ⟨g, 2, none⟩ = some (.int .i64 c.tk) ∧ w.cell? ⟨g, 3, none⟩ = some (.int .i64 c.tm) ∧
    w.cell? ⟨g, 4, none⟩ = some (.bool c.nl) ∧ w.cell? ⟨g, 5, none⟩ = some (.int .i64 c.dk) ∧ w.cell? ⟨g, 6, none⟩ = some (.int .i64 c.dn) ∧ w.cell? ⟨g, 7, none⟩ = some (.string c.ds) := by
  have := col_cells (k := 0) h rfl rfl
  simpa using this
set_option maxRecDepth 100000 in
set_option maxHeartbeats 8000000 in
theorem acol_any (g cap k : Nat) (l : List Tb) (t : Tb) (c : Cb) (w : World) (B Bc : Nat) (ht : UTab w) (hO : OwnTb w B (.slice (some ⟨g, 0, none⟩) l.length cap) l) (hk : l[k]? = some t)
    (hC : OwnC w Bc (.slice t.A t.cols.length t.cap) t.cols) (hgB : g < Bc) (hBw : Bc ≤ w.heap.size) (hl : t.cols.length ≤ 1000000) (hc : c.nm.size ≤ 1000000) (hn0 : 0 ≤ t.nx) (hn1 : t.nx ≤ 1000000) :
    Calls Tryz.prog 68 #[.pointer (some ⟨g, k * 5, none⟩), CV c] w fun e w' => e = .returned (.int .i64 (acolE t.cols c)) ∧ (acolE t.cols c ≠ 0 → Below w.heap.size w w') ∧
      (acolE t.cols c = 0 → Off (fun x => x = g ∨ colBk t = some x) w w' ∧ ∃ A' cap', OwnTb w' B (.slice (some ⟨g, 0, none⟩) l.length cap) (l.set k (t.more A' cap' c)) ∧ OwnC w' Bc (.slice A' (t.cols.length + 1) cap') (t.cols ++ [{ c with id := t.nx }])) := by
  obtain ⟨w0, hw0, hb0, hX, hs0⟩ := box_colO w c
  have Hw0 := Lib.hid hw0; clear hw0
  have Hb0 := Lib.hid hb0
  have HO0 := Lib.hid (hO.below hb0); clear hO
  have HC0 := Lib.hid (hC.below hb0)
  have Hcb := Lib.hid (fun x (hx : colBk t = some x) => hC.lt x hx); clear hC
  have HT := Lib.hid (ht.below hb0 (Nat.le_refl _)); clear ht hb0
  have HX := Lib.hid hX
  have Hs0 := Lib.hid hs0; clear hs0
  have Hk := Lib.hid hk; clear hk
  have hgw : g < w.heap.size := by omega
  have HN := Lib.hid (nright_any c.nm w0 hc)
  have HH := Lib.hid (fun w' hA' => hascol_any t c.nm w' hA' hl)
  have HR := Lib.hid (fun w => tright_any c.tk c.tm w)
  have HF := Lib.hid (fun w ht => rdef_any c.tk c.tm c.dk c.dn c.ds w ht)
  have Hv : Hid (acolE t.cols c = if rightN (bs c.nm) = true then (if (colI t c.nm).isSome = true then 14 else if rightT c.tk c.tm = true then (if presetD c.tk c.tm c.dk c.dn c.ds = true then 0 else 10) else 9) else 8) := rfl
  generalize acolE t.cols c = E at Hv ⊢
  generalize rightN (bs c.nm) = b1 at HN Hv
  generalize (colI t c.nm).isSome = b2 at HH Hv
  generalize rightT c.tk c.tm = b3 at HR Hv
  generalize presetD c.tk c.tm c.dk c.dn c.ds = b4 at HF Hv
  rw [← Hw0.out] at HN
  obtain ⟨x0, x1, x2, x3, x4, x5, x6, x7⟩ := one_cells hX
  clear hX
  have HA0 : Hid (TabAt w0 w0.heap.size t) := HC0.out.at lenC
  have HAd : Hid (TabAt w0.drew w0.drew.heap.size t) := HA0.out
  cases b1
  · have He : Hid (E = 8) := Hv.out
    clear x0 x1 x2 x3 x4 x5 x6 x7
    go_enter Tryz.func68, Tryz.ntmps68
    go_wp2_with fail
    refine HN.out.mono ?_
    rintro e w1 ⟨rfl, hb1⟩
    rw [Hw0.out] at hb1
    subst hb1
    go_wp2_with fail
    go_ret
    exact ⟨by rw [He.out]; rfl, fun _ => Hb0.out, fun h => by rw [He.out] at h; cases h⟩
  obtain ⟨d0, d1, d2, d3, d4⟩ := tab_cells HO0.out Hk.out
  have Hsz : Hid (w.heap.size < w0.heap.size) := by show _ < _; have := Hs0.out; omega
  cases b2
  case true =>
    have He : Hid (E = 14) := Hv.out
    go_enter Tryz.func68, Tryz.ntmps68
    go_wp2_with fail
    refine HN.out.mono ?_
    rintro e w1 ⟨rfl, hb1⟩
    rw [Hw0.out] at hb1
    subst hb1
    go_wp2_with fail
    go_region_with (first
      | (go_at_call 90; refine (HH.out _ HAd.out).mono ?_; rintro e w2 ⟨rfl, hb2⟩; have Hb2 := Lib.hid (bthen Hb0.out ((Below.refl w0.heap.size w0).drew.trans hb2)); clear hb2)
      | fail)
    all_goals
      go_wp2_with fail
      go_ret
      exact ⟨by rw [He.out]; rfl, fun _ => Hb2.out, fun h => by rw [He.out] at h; cases h⟩
  cases b3
  · have He : Hid (E = 9) := Hv.out
    go_enter Tryz.func68, Tryz.ntmps68
    go_wp2_with fail
    refine HN.out.mono ?_
    rintro e w1 ⟨rfl, hb1⟩
    rw [Hw0.out] at hb1
    subst hb1
    go_wp2_with fail
    go_region_with (first
      | (go_at_call 90; refine (HH.out _ HAd.out).mono ?_; rintro e w2 ⟨rfl, hb2⟩; have Hb2 := Lib.hid ((Below.refl w0.heap.size w0).drew.trans hb2); clear hb2)
      | fail)
    all_goals
      obtain ⟨y0, y1, y2, y3, y4, y5, y6, y7⟩ := one_cells (HX.out.below Hb2.out)
      go_wp2_with fail
      refine (HR.out _).mono ?_
      rintro e w3 ⟨rfl, hb3⟩
      have Hb3 := Lib.hid (bthen (bthen Hb0.out Hb2.out) hb3); clear hb3
      go_wp2_with fail
      go_ret
      exact ⟨by rw [He.out]; rfl, fun _ => Hb3.out, fun h => by rw [He.out] at h; cases h⟩
  cases b4
  · have He : Hid (E = 10) := Hv.out
    go_enter Tryz.func68, Tryz.ntmps68
    go_wp2_with fail
    refine HN.out.mono ?_
    rintro e w1 ⟨rfl, hb1⟩
    rw [Hw0.out] at hb1
    subst hb1
    go_wp2_with fail
    go_region_with (first
      | (go_at_call 90; refine (HH.out _ HAd.out).mono ?_; rintro e w2 ⟨rfl, hb2⟩; have Hb2 := Lib.hid ((Below.refl w0.heap.size w0).drew.trans hb2); clear hb2)
      | fail)
    all_goals
      obtain ⟨y0, y1, y2, y3, y4, y5, y6, y7⟩ := one_cells (HX.out.below Hb2.out)
      go_wp2_with fail
      refine (HR.out _).mono ?_
      rintro e w3 ⟨rfl, hb3⟩
      have Hb3 := Lib.hid (bthen Hb2.out hb3); clear hb3
      clear y0 y1 y2 y3 y4 y5 y6 y7
      obtain ⟨y0, y1, y2, y3, y4, y5, y6, y7⟩ := one_cells (HX.out.below Hb3.out)
      go_wp2_with fail
      refine (HF.out _ (HT.out.below Hb3.out (Nat.le_refl _))).mono ?_
      rintro e w4 ⟨rfl, hb4⟩
      have Hb4 := Lib.hid (bthen (bthen Hb0.out Hb3.out) hb4); clear hb4
      go_wp2_with fail
      go_ret
      exact ⟨by rw [He.out]; rfl, fun _ => Hb4.out, fun h => by rw [He.out] at h; cases h⟩
  have He : Hid (E = 0) := Hv.out
  have hne : g ≠ w.heap.size := by omega
  have hne' : w.heap.size ≠ g := by omega
  have hnx : IntKind.i64.wrap (t.nx + 1) = t.nx + 1 := by rw [IntKind.wrap_i64]; omega
  go_enter Tryz.func68, Tryz.ntmps68
  go_wp2_with fail
  refine HN.out.mono ?_
  rintro e w1 ⟨rfl, hb1⟩
  rw [Hw0.out] at hb1
  subst hb1
  go_wp2_with fail
  go_region_with (first
    | (go_at_call 90; refine (HH.out _ HAd.out).mono ?_; rintro e w2 ⟨rfl, hb2⟩; have Hb2 := Lib.hid ((Below.refl w0.heap.size w0).drew.trans hb2); clear hb2)
    | fail)
  all_goals
    obtain ⟨y0, y1, y2, y3, y4, y5, y6, y7⟩ := one_cells (HX.out.below Hb2.out)
    go_wp2_with fail
    refine (HR.out _).mono ?_
    rintro e w3 ⟨rfl, hb3⟩
    have Hb3 := Lib.hid (bthen Hb2.out hb3); clear hb3
    clear y0 y1 y2 y3 y4 y5 y6 y7
    obtain ⟨y0, y1, y2, y3, y4, y5, y6, y7⟩ := one_cells (HX.out.below Hb3.out)
    go_wp2_with fail
    refine (HF.out _ (HT.out.below Hb3.out (Nat.le_refl _))).mono ?_
    rintro e w4 ⟨rfl, hb4⟩
    have Hb4 := Lib.hid (bthen Hb3.out hb4); clear hb4
    clear y0 y1 y2 y3 y4 y5 y6 y7 x0 x1 x2 x3 x4 x5 x6 x7 d0 d1 d2 d3 d4
    have HX4 := Lib.hid (HX.out.below Hb4.out)
    have HO4 := Lib.hid (HO0.out.below Hb4.out)
    have HC4 := Lib.hid (HC0.out.below Hb4.out)
    obtain ⟨y0, y1, y2, y3, y4, y5, y6, y7⟩ := one_cells HX4.out
    obtain ⟨d0, d1, d2, d3, d4⟩ := tab_cells HO4.out Hk.out
    have f0 := HX4.out.frozen 0
    have f1 := HO4.out.frozen (k * 5 + 3)
    obtain ⟨W, hW⟩ : ∃ W, (w4.setCell ⟨w.heap.size, 0, none⟩ (.int .i64 t.nx)).setCell ⟨g, k * 5 + 3, none⟩ (.int .i64 (t.nx + 1)) = W := ⟨_, rfl⟩
    have hof1 := Off.set w4 w.heap.size 0 (.int .i64 t.nx)
    have hof2 := Off.set (w4.setCell ⟨w.heap.size, 0, none⟩ (.int .i64 t.nx)) g (k * 5 + 3) (.int .i64 (t.nx + 1))
    have HXW : Hid (OwnC W w.heap.size (.slice (some ⟨w.heap.size, 0, none⟩) 1 1) [{ c with id := t.nx }]) := by
      have h1 := HX4.out.set1 lenC (k := 0) (i := 0) (x := c) (y := { c with id := t.nx }) (u := .int .i64 t.nx) rfl (by omega) rfl
      rw [← hW]
      exact OwnR.off h1 hof2 (fun x hx e => by simp [Value.ownBlock] at hx; omega)
    have HOW : Hid (OwnTb W B (.slice (some ⟨g, 0, none⟩) l.length cap) (l.set k { t with nx := t.nx + 1 })) := by
      have h1 := HO4.out.off hof1 (fun x hx e => by simp [Value.ownBlock] at hx; omega)
      have h2 := h1.set1 lenT (k := k) (i := 3) (x := t) (y := { t with nx := t.nx + 1 }) (u := .int .i64 (t.nx + 1)) Hk.out (by omega) rfl
      rw [← hW]; exact h2
    have HCW : Hid (OwnC W Bc (.slice t.A t.cols.length t.cap) t.cols) := by
      rw [← hW]
      refine (HC4.out.off hof1 fun x hx e => ?_).off hof2 fun x hx e => ?_
      · have := (Hcb.out x hx).2; omega
      · have := (Hcb.out x hx).1; omega
    have HoW : Hid (Off (fun x => x = g ∨ colBk t = some x) w W) := by
      have h1 : Off (fun x => x = g ∨ x = w.heap.size) w W := by
        rw [← hW]
        exact ((Off.behind (bthen Hb0.out Hb4.out) (hof1.mono fun x _ e => .inr e))).trans (hof2.mono fun x _ e => .inl e)
      exact h1.mono fun x hx e => by
        rcases e with e | e
        · exact .inl e
        · omega
    have HsW : Hid (w.heap.size < W.heap.size) := by
      show _ < _
      rw [← hW]
      exact Nat.lt_of_lt_of_le Hsz.out (Nat.le_trans Hb4.out.size (Nat.le_trans hof1.size hof2.size))
    have HW := Lib.hid hW
    clear hW hof1 hof2
    go_wp2_with fail
    rw [HW.out]
    clear y0 y1 y2 y3 y4 y5 y6 y7 d0 d1 d2 d3 d4 f0 f1
    obtain ⟨y0, y1, y2, y3, y4, y5, y6, y7⟩ := one_cells HXW.out
    have HkW : Hid ((l.set k { t with nx := t.nx + 1 })[k]? = some { t with nx := t.nx + 1 }) := by
      have h1 := (List.getElem?_eq_some_iff.1 Hk.out).1
      show _ = _
      rw [List.getElem?_set_self h1]
    have HOW' : Hid (OwnTb W B (.slice (some ⟨g, 0, none⟩) (l.set k { t with nx := t.nx + 1 }).length cap) (l.set k { t with nx := t.nx + 1 })) := by
      show OwnTb _ _ _ _
      rw [List.length_set]; exact HOW.out
    obtain ⟨d0, d1, d2, d3, d4⟩ := tab_cells HOW'.out HkW.out
    have hBW : Bc ≤ W.heap.size := by have := HsW.out; omega
    have k4 := fun o => keep_alloc d4 o
    have HgC : Hid (∀ x, colBk t = some x → x ≠ g) := fun x hx e => by have := (Hcb.out x hx).1; omega
    go_region_law (refine step_append_rows Tryz.underlying29 infoC rfl (by decide) (by decide) lenC oneC rfl (.tmp 45) (.tmp 47) rfl Bc _ t.cols (some ⟨W.heap.size, 0, none⟩) 1 1 [{ c with id := t.nx }] (World.ownsRow.alloc HCW.out _) (by simp [Act.eval]) (by simp [Act.eval]) rfl (fun h => by cases h) (rowat_new (m := 8) (f := fC) W { c with id := t.nx } 63) (by simp; omega) (by simp; omega) ?_; intro v1 w5 ho5 hg5; obtain ⟨A', cap', rfl, _, _, _⟩ := ho5.form; have hof5 : Off (fun x => colBk t = some x) W w5 := Off.behind (by go_grown) (Off.of_grown hg5); have HO5 := Lib.hid (OwnR.off HOW'.out hof5 (fun x hx e => HgC.out x e (by simpa [Value.ownBlock] using hx.symm))); have Hof5 := Lib.hid hof5; have HC5 := Lib.hid ho5; clear hof5 ho5 hg5; have z4 := (tab_cells HO5.out HkW.out).2.2.2.2; have f4 := HO5.out.frozen (k * 5 + 4))
    all_goals
      have HC6 := Lib.hid (OwnR.off HC5.out (Off.set w5 g (k * 5 + 4) (.slice A' (t.cols ++ [{ c with id := t.nx }]).length cap')) (fun x hx e => by have := (HC5.out.lt x hx).1; omega))
      have HO6 := Lib.hid (HO5.out.set1 lenT (k := k) (i := 4) (x := { t with nx := t.nx + 1 }) (y := t.more A' cap' c) (u := .slice A' (t.cols ++ [{ c with id := t.nx }]).length cap') HkW.out (by omega) rfl)
      rw [List.length_set, List.set_set] at HO6
      have Hof6 : Hid (Off (fun x => x = g ∨ colBk t = some x) w (w5.setCell ⟨g, k * 5 + 4, none⟩ (.slice A' (t.cols ++ [{ c with id := t.nx }]).length cap'))) :=
        (HoW.out.trans (Hof5.out.mono fun x _ e => .inr e)).trans ((Off.set w5 g (k * 5 + 4) _).mono fun x _ e => .inl e)
      have hle : (t.cols ++ [({ c with id := t.nx } : Cb)]).length = t.cols.length + 1 := by simp
      rw [hle] at HC6 HO6 Hof6
      clear hle z4 f4
      go_wp2_with fail
      go_ret
      exact ⟨by rw [He.out]; rfl, fun h => absurd He.out h, fun _ => ⟨Hof6.out, A', cap', HO6.out, HC6.out⟩⟩
end Go.Proofs.YthmjgaekcghonaaGreatDoor
