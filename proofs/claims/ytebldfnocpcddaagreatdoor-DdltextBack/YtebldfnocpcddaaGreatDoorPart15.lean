/-
  Texts that the proof needs, one behind the other: DdlRows.
-/
import Derived.Test.YtebldfnocpcddaaGreatDoorPart8
import Derived.Test.YtebldfnocpcddaaGreatDoorPart13

/-
  Rows of structs of the call's own (any size), worlds alike but for some blocks, catalogs of the call's own; a change in memory.
-/
namespace Go.Proofs.YtebldfnocpcddaaGreatDoor
open Go.RowKit

/-! ### Worlds alike but for some blocks -/
structure Off (S : Nat → Prop) (w w' : World) : Prop where
  os : w'.os = w.os
  tape : w'.tape = w.tape
  output : w'.output = w.output
  size : w.heap.size ≤ w'.heap.size
  block : ∀ k, k < w.heap.size → ¬ S k → w'.heap[k]? = w.heap[k]?
theorem Off.refl (S : Nat → Prop) (w : World) : Off S w w := ⟨rfl, rfl, rfl, Nat.le_refl _, fun _ _ _ => rfl⟩
theorem Off.trans {S : Nat → Prop} {a b c : World} (h : Off S a b) (k : Off S b c) : Off S a c :=
  ⟨k.os.trans h.os, k.tape.trans h.tape, k.output.trans h.output, Nat.le_trans h.size k.size, fun i hi hn => (k.block i (Nat.lt_of_lt_of_le hi h.size) hn).trans (h.block i hi hn)⟩
theorem Off.of_below {S : Nat → Prop} {w w' : World} (h : Below w.heap.size w w') : Off S w w' := ⟨h.os, h.tape, h.output, h.size, fun k hk _ => h.block k hk⟩
theorem Off.of_grown {w w' : World} {row : Option Nat} (h : w.grownBy w' row) : Off (fun k => row = some k) w w' := ⟨h.os, h.tape, h.output, h.size, fun k hk hn => h.block k hk (fun e => hn e.symm)⟩
theorem Off.mono {S S' : Nat → Prop} {w w' : World} (h : Off S w w') (hs : ∀ k, k < w.heap.size → S k → S' k) : Off S' w w' := ⟨h.os, h.tape, h.output, h.size, fun k hk hn => h.block k hk (fun e => hn (hs k hk e))⟩
theorem Off.below {S : Nat → Prop} {w w' : World} {B : Nat} (h : Off S w w') (hS : ∀ k, k < w.heap.size → S k → B ≤ k) (hB : B ≤ w.heap.size) : Below B w w' :=
  ⟨h.os, h.tape, h.output, h.size, fun k hk => h.block k (Nat.lt_of_lt_of_le hk hB) (fun e => absurd (hS k (Nat.lt_of_lt_of_le hk hB) e) (by omega))⟩
theorem Off.cell {S : Nat → Prop} {w w' : World} (h : Off S w w') {p : Addr} (hp : p.block < w.heap.size) (hn : ¬ S p.block) : w'.cell? p = w.cell? p := World.cell?_of_block (h.block p.block hp hn)
theorem Off.keep {S : Nat → Prop} {w w' : World} (h : Off S w w') {p : Addr} {v : Value} (hv : w.cell? p = some v) (hn : ¬ S p.block) : w'.cell? p = some v := (h.cell (World.block_lt_of_cell? w p hv) hn).trans hv
theorem Off.then {S : Nat → Prop} {a b c : World} (h : Off S a b) (k : Below b.heap.size b c) : Off S a c := h.trans (.of_below k)
theorem Off.behind {S : Nat → Prop} {a b c : World} (h : Below a.heap.size a b) (k : Off S b c) : Off S a c := (Off.of_below h).trans k
theorem Off.set (w : World) (g j : Nat) (v : Value) : Off (fun k => k = g) w (w.setCell ⟨g, j, none⟩ v) :=
  ⟨rfl, rfl, rfl, by simp, fun k _ hk => heap_setCell_other w ⟨g, j, none⟩ k v (fun e => hk (by simp [e]))⟩

/-! ### Rows of structs, flt -/
def flt {α : Type} (f : α → List Value) : List α → List Value
  | [] => []
  | x :: r => f x ++ flt f r
theorem flat_append {α : Type} (f : α → List Value) : ∀ a b : List α, flt f (a ++ b) = flt f a ++ flt f b
  | [], b => rfl
  | x :: r, b => by simp [flt, flat_append f r b]
theorem flat_length {α : Type} {f : α → List Value} {m : Nat} (hm : ∀ x, (f x).length = m) : ∀ l : List α, (flt f l).length = l.length * m
  | [] => by simp [flt]
  | x :: r => by simp [flt, hm, flat_length hm r, Nat.add_mul]; omega
theorem flat_get {α : Type} {f : α → List Value} {m : Nat} (hm : ∀ x, (f x).length = m) : ∀ (l : List α) (j : Nat) (x : α) (i : Nat) (v : Value), l[j]? = some x → (f x)[i]? = some v → (flt f l)[j * m + i]? = some v
  | [], j, x, i, v, h, _ => by simp at h
  | y :: r, 0, x, i, v, h, hv => by
    simp at h; subst h
    have hi := (List.getElem?_eq_some_iff.1 hv).1
    simp only [flt, Nat.zero_mul, Nat.zero_add]
    rw [List.getElem?_append_left hi]; exact hv
  | y :: r, j + 1, x, i, v, h, hv => by
    simp only [flt]
    rw [List.getElem?_append_right (by rw [hm, Nat.add_mul]; omega), hm, show (j + 1) * m + i - m = j * m + i by rw [Nat.add_mul]; omega]
    exact flat_get hm r j x i v (by simpa using h) hv
theorem flat_all {α : Type} {f : α → List Value} {m : Nat} (hm : ∀ x, (f x).length = m) {Q : Nat → Value → Prop} : ∀ (l : List α), (∀ j x i v, l[j]? = some x → (f x)[i]? = some v → Q (j * m + i) v) → ∀ p u, (flt f l)[p]? = some u → Q p u
  | [], _, p, u, h => by simp [flt] at h
  | y :: r, hq, p, u, h => by
    simp only [flt] at h
    by_cases hp : p < m
    · rw [List.getElem?_append_left (by rw [hm]; exact hp)] at h
      have := hq 0 y p u rfl h
      simpa using this
    · rw [List.getElem?_append_right (by rw [hm]; omega), hm] at h
      have := flat_all hm (Q := fun p u => Q (p + m) u) r (fun j x i v h1 h2 => by
        have := hq (j + 1) x i v (by simpa using h1) h2
        rwa [show (j + 1) * m + i = j * m + i + m by rw [Nat.add_mul]; omega] at this) (p - m) u h
      rwa [show p - m + m = p by omega] at this
theorem flat_set {α : Type} {f : α → List Value} {m : Nat} (hm : ∀ x, (f x).length = m) : ∀ (l : List α) (k : Nat) (x y : α) (i : Nat) (v : Value), l[k]? = some x → i < m → f y = (f x).set i v → flt f (l.set k y) = (flt f l).set (k * m + i) v
  | [], k, x, y, i, v, h, _, _ => by simp at h
  | a :: r, 0, x, y, i, v, h, hi, hy => by
    simp at h; subst h
    simp only [List.set_cons_zero, flt, Nat.zero_mul, Nat.zero_add]
    rw [List.set_append_left _ _ (by rw [hm]; exact hi), hy]
  | a :: r, k + 1, x, y, i, v, h, hi, hy => by
    simp only [List.set_cons_succ, flt]
    rw [List.set_append_right _ _ (by rw [hm, Nat.add_mul]; omega), hm, show (k + 1) * m + i - m = k * m + i by rw [Nat.add_mul]; omega]
    rw [flat_set hm r k x y i v (by simpa using h) hi hy]
theorem flt_take {α : Type} {f : α → List Value} {m : Nat} (hm : ∀ x, (f x).length = m) : ∀ (l : List α) (k : Nat), (flt f l).take (k * m) = flt f (l.take k)
  | [], k => by simp [flt]
  | a :: r, 0 => by simp [flt]
  | a :: r, k + 1 => by
    simp only [flt, List.take_succ_cons]
    rw [List.take_append, hm, List.take_of_length_le (by rw [hm, Nat.add_mul]; omega), show (k + 1) * m - m = k * m by rw [Nat.add_mul]; omega, flt_take hm r k]
theorem flat_drop {α : Type} {f : α → List Value} {m : Nat} (hm : ∀ x, (f x).length = m) : ∀ (l : List α) (k : Nat), (flt f l).drop (k * m) = flt f (l.drop k)
  | [], k => by simp [flt]
  | a :: r, 0 => by simp [flt]
  | a :: r, k + 1 => by
    simp only [flt, List.drop_succ_cons]
    rw [List.drop_append, hm, List.drop_eq_nil_of_le (by rw [hm, Nat.add_mul]; omega), show (k + 1) * m - m = k * m by rw [Nat.add_mul]; omega, flat_drop hm r k, List.nil_append]
theorem flat_mem {α : Type} {f : α → List Value} {Q : Value → Prop} (h : ∀ x, ∀ v ∈ f x, Q v) : ∀ (l : List α), ∀ v ∈ flt f l, Q v
  | [], v, hv => by simp [flt] at hv
  | a :: r, v, hv => by
    rcases List.mem_append.1 hv with h1 | h1
    · exact h a v h1
    · exact flat_mem h r v h1
theorem lenC (c : Cb) : (fC c).length = 8 := rfl
theorem lenT (t : Tb) : (fT t).length = 5 := rfl
theorem oneC : ∀ c : Cb, ∀ v ∈ fC c, v.oneCell' = true := fun c v hv => by
  simp [fC] at hv
  rcases hv with h | h | h | h | h | h | h | h <;> (subst h; rfl)
theorem oneT : ∀ t : Tb, ∀ v ∈ fT t, v.oneCell' = true := fun t v hv => by
  simp [fT] at hv
  rcases hv with h | h | h | h | h <;> (subst h; rfl)

/-! ### Rows of the call's own -/
def OwnR {α : Type} (T : TypeId) (m : Nat) (f : α → List Value) (w : World) (base : Nat) (v : Value) (l : List α) : Prop := w.ownsRow base T m v l.length (flt f l)
abbrev OwnC (w : World) (base : Nat) (v : Value) (l : List Cb) : Prop := OwnR 56 8 fC w base v l
abbrev OwnTb (w : World) (base : Nat) (v : Value) (l : List Tb) : Prop := OwnR 45 5 fT w base v l
section
variable {α : Type} {T : TypeId} {m : Nat} {f : α → List Value} {w w' : World} {base : Nat} {v : Value} {l : List α}
theorem OwnR.nil (T : TypeId) (m : Nat) (f : α → List Value) (w : World) (base : Nat) : OwnR T m f w base (.slice none 0 0) [] := World.ownsRow_nil _ _ _ _
theorem OwnR.below (h : OwnR T m f w base v l) (hb : Below w.heap.size w w') : OwnR T m f w' base v l := owns_below h hb
theorem OwnR.lt (h : OwnR T m f w base v l) : ∀ k, v.ownBlock = some k → base ≤ k ∧ k < w.heap.size := World.ownsRow.lt h
theorem OwnR.off {S : Nat → Prop} (h : OwnR T m f w base v l) (hw : Off S w w') (hn : ∀ k, v.ownBlock = some k → ¬ S k) : OwnR T m f w' base v l := by
  refine ⟨h.1, ?_⟩
  rcases h.2 with hn' | ⟨g, cap, cur, rfl, hb, hg, rest⟩
  · exact .inl hn'
  · exact .inr ⟨g, cap, cur, rfl, hb, (hw.block g (Array.getElem?_eq_some_iff.1 hg).1 (hn g rfl)).trans hg, rest⟩
theorem OwnR.mono {base' : Nat} (h : OwnR T m f w base v l) (hb : base' ≤ base) : OwnR T m f w base' v l :=
  ⟨h.1, h.2.imp id fun ⟨g, cap, cur, h1, h2, h3⟩ => ⟨g, cap, cur, h1, Nat.le_trans hb h2, h3⟩⟩
/-- the base raised, where the block allows it -/
theorem OwnR.raise {base' : Nat} (h : OwnR T m f w base v l) (hb : ∀ k, v.ownBlock = some k → base' ≤ k) : OwnR T m f w base' v l :=
  ⟨h.1, h.2.imp id fun ⟨g, cap, cur, h1, _, h3⟩ => ⟨g, cap, cur, h1, hb g (by rw [h1]; rfl), h3⟩⟩
theorem OwnR.form (h : OwnR T m f w base v l) : ∃ A cap, v = .slice A l.length cap ∧ l.length ≤ cap ∧ cap ≤ maxLen ∧ (A = none → cap = 0) := by
  rcases h.2 with ⟨rfl, h0⟩ | ⟨g, cap, cur, rfl, hb, hg, hc, hm, _⟩
  · exact ⟨none, 0, by rw [h0], by omega, by simp, fun _ => rfl⟩
  · exact ⟨_, cap, rfl, hc, hm, fun e => by cases e⟩
theorem OwnR.shape (h : OwnR T m f w base v l) (hl : 0 < l.length) : ∃ g cap, v = .slice (some ⟨g, 0, none⟩) l.length cap ∧ base ≤ g ∧ g < w.heap.size ∧ l.length ≤ cap ∧ cap ≤ maxLen := by
  rcases h.2 with ⟨_, h0⟩ | ⟨g, cap, cur, rfl, hb, hg, hc, hm, _⟩
  · omega
  · exact ⟨g, cap, rfl, hb, (Array.getElem?_eq_some_iff.1 hg).1, hc, hm⟩
theorem OwnR.at {A : Option Addr} {n cap : Nat} (hm : ∀ x, (f x).length = m) (h : OwnR T m f w base (.slice A n cap) l) : RowAt m f w w.heap.size A l := fun hl => by
  obtain ⟨g, cap', e, hb, hg, _⟩ := h.shape hl
  cases e
  refine ⟨g, 0, rfl, hg, fun j x hj i v hv => ?_⟩
  have := World.ownsRow.cells h (g := g) rfl (j * m + i) v (flat_get hm l j x i v hj hv)
  rw [Addr.add_lit] at this
  rw [← this]; congr 2; omega
theorem OwnR.cell {g cap : Nat} (hm : ∀ x, (f x).length = m) (h : OwnR T m f w base (.slice (some ⟨g, 0, none⟩) l.length cap) l) {k i : Nat} {x : α} {u : Value} (hk : l[k]? = some x) (hi : (f x)[i]? = some u) : w.cell? ⟨g, k * m + i, none⟩ = some u := by
  have hkl := (List.getElem?_eq_some_iff.1 hk).1
  have := h.at hm (by omega)
  obtain ⟨b, off, e, _, hc⟩ := this
  cases e
  have := hc k x hk i u hi
  rwa [Nat.zero_add] at this
theorem OwnR.frozen {g cap : Nat} (h : OwnR T m f w base (.slice (some ⟨g, 0, none⟩) l.length cap) l) (j : Nat) : w.frozen? ⟨g, j, none⟩ = false := World.ownsRow.frozenAt h j
/-- one cell stored -/
theorem OwnR.set1 {g cap : Nat} (hm : ∀ x, (f x).length = m) (h : OwnR T m f w base (.slice (some ⟨g, 0, none⟩) l.length cap) l) {k i : Nat} {x y : α} {u : Value} (hk : l[k]? = some x) (hi : i < m) (hy : f y = (f x).set i u) :
    OwnR T m f (w.setCell ⟨g, k * m + i, none⟩ u) base (.slice (some ⟨g, 0, none⟩) l.length cap) (l.set k y) := by
  unfold OwnR
  rw [List.length_set, flat_set hm l k x y i u hk hi hy]
  exact (World.ownsRow.stored h (k * m + i) u).1
theorem run_append_rows {ts : TypeId} {z : Value} {by_ : Nat} (hts : Tryz.prog.underlying ts = some (.slice T)) (hinfo : (Tryz.prog.info? T).map (fun i => (i.zero, i.size, i.bytes)) = some (some z, m, by_)) (hzs : z.cells.size = m) (h0 : 0 < m) (hby : by_ ≤ 128)
    (hm : ∀ x, (f x).length = m) (h1 : ∀ x, ∀ v ∈ f x, v.oneCell' = true) (ty : TypeId) (A : Option Addr) (c : Nat) (vs : List α) (hown : OwnR T m f w base v l) (hA : A = none → c = 0) (hvs : RowAt m f w w.heap.size A vs)
    (hlen : l.length + vs.length ≤ 2000000) (hbase : base ≤ w.heap.size) :
    ∃ v' w', (Builtin.append_ #[ts, ts] ty #[v, .slice A vs.length c]).run Tryz.prog w = .ok v' w' ∧ OwnR T m f w' base v' (l ++ vs) ∧ w.grownBy w' v.ownBlock := by
  obtain ⟨i0, hi, hz0, hz1, hz2⟩ := info_parts hinfo
  cases A with
  | none =>
    have hl : vs = [] := by
      cases vs with
      | nil => rfl
      | cons y r =>
        obtain ⟨_, _, h3, _⟩ := hvs (by simp)
        cases h3
    subst hl
    obtain rfl := hA rfl
    exact ⟨v, w, run_append_owned_none w base ts ty T i0 m hts hi v l.length (flt f l) hown, by rw [List.append_nil]; exact hown, ⟨rfl, rfl, rfl, Nat.le_refl _, fun _ _ _ => rfl⟩⟩
  | some ad =>
    obtain ⟨v', w', hrun, h2, h3, _⟩ := run_append_own (P := Tryz.prog) w base ts ty T i0 z m by_ hts hi hz0 hz1 hz2 hzs h0 v l.length (flt f l) hown ad vs.length c (flt f vs) (flat_length hm vs)
      (flat_all hm vs fun j x i u hj hu => by
        obtain ⟨b, off, h3, _, h5⟩ := hvs (by have := (List.getElem?_eq_some_iff.1 hj).1; omega)
        cases h3
        have := h5 j x hj i u hu
        simp only [Addr.add_lit, ← Nat.add_assoc]
        exact this)
      (flat_mem h1 vs) (by unfold maxLen; omega) (by
        have : (l.length + vs.length) * by_ ≤ 2000000 * 128 := Nat.mul_le_mul hlen hby
        omega) hbase
    refine ⟨v', w', hrun, ?_, h3⟩
    unfold OwnR
    rw [flat_append, List.length_append]
    exact h2
theorem wpList_append_rows {ts : TypeId} {z : Value} {by_ : Nat} (hts : Tryz.prog.underlying ts = some (.slice T)) (hinfo : (Tryz.prog.info? T).map (fun i => (i.zero, i.size, i.bytes)) = some (some z, m, by_)) (hzs : z.cells.size = m) (h0 : 0 < m) (hby : by_ ≤ 128)
    (hm : ∀ x, (f x).length = m) (h1 : ∀ x, ∀ v ∈ f x, v.oneCell' = true) {ops : Array Oper} {rest : List Oper} {o : Oper} {a : Act} {Q : Exit → Act → World → Prop} (hgd : o.guard = none) (s x : Operand)
    (ho : o.op = .call { callee := .builtin .append, args := #[s, x], argTypes := #[ts, ts] })
    (base : Nat) (v : Value) (l : List α) (A : Option Addr) (n c : Nat) (vs : List α)
    (hown : OwnR T m f w base v l) (hs : a.eval s = v) (hx : a.eval x = .slice A n c) (hn : n = vs.length) (hA : A = none → c = 0) (hvs : RowAt m f w w.heap.size A vs) (hlen : l.length + vs.length ≤ 2000000) (hbase : base ≤ w.heap.size)
    (h : ∀ v' w', OwnR T m f w' base v' (l ++ vs) → w.grownBy w' v.ownBlock → wpList Tryz.prog ops Q rest (a.put o.dst v') w') :
    wpList Tryz.prog ops Q (o :: rest) a w := by
  subst hn
  refine wpList_plain hgd fun K hK => ?_
  obtain ⟨v', w', hr, h2, h3⟩ := run_append_rows hts hinfo hzs h0 hby hm h1 o.type A c vs hown hA hvs hlen hbase
  unfold Oper.wp execOp
  simp only [ho, resolve, invoke, builtin, Sem.run_bind, Sem.run_pure, Result.andThen_ok, List.map_toArray, List.map_cons, List.map_nil, hs, hx, hr]
  exact hK _ _ (h v' w' h2 h3)
theorem step_append_rows {ts : TypeId} {z : Value} {by_ : Nat} (hts : Tryz.prog.underlying ts = some (.slice T)) (hinfo : (Tryz.prog.info? T).map (fun i => (i.zero, i.size, i.bytes)) = some (some z, m, by_)) (hzs : z.cells.size = m) (h0 : 0 < m) (hby : by_ ≤ 128)
    (hm : ∀ x, (f x).length = m) (h1 : ∀ x, ∀ v ∈ f x, v.oneCell' = true) {ops : Array Oper} {o : Oper} {a : Act} {K : Act → World → Prop} {Q : Exit → Act → World → Prop} {E : Prop} (hgd : o.guard = none) (s x : Operand)
    (ho : o.op = .call { callee := .builtin .append, args := #[s, x], argTypes := #[ts, ts] })
    (base : Nat) (v : Value) (l : List α) (A : Option Addr) (n c : Nat) (vs : List α)
    (hown : OwnR T m f w base v l) (hs : a.eval s = v) (hx : a.eval x = .slice A n c) (hn : n = vs.length) (hA : A = none → c = 0) (hvs : RowAt m f w w.heap.size A vs) (hlen : l.length + vs.length ≤ 2000000) (hbase : base ≤ w.heap.size)
    (h : ∀ v' w', OwnR T m f w' base v' (l ++ vs) → w.grownBy w' v.ownBlock → K (a.put o.dst v') w') :
    if Region.wanted o (yielded ops a.tmps) = true then Oper.wp Tryz.prog o a w K Q else E := by
  subst hn
  have hw : Region.wanted o (yielded ops a.tmps) = true := by simp [Region.wanted, hgd]
  rw [if_pos hw]
  obtain ⟨v', w', hr, h2, h3⟩ := run_append_rows hts hinfo hzs h0 hby hm h1 o.type A c vs hown hA hvs hlen hbase
  unfold Oper.wp
  simp [execOp, ho, resolve, invoke, builtin, hs, hx, hr, Result.andThen]
  exact h v' w' h2 h3
end
set_option maxRecDepth 100000 in
theorem infoC : (Tryz.prog.info? 56).map (fun i => (i.zero, i.size, i.bytes)) = some (some (.agg #[.int .i64 0, .string ByteArray.empty, .int .i64 0, .int .i64 0, .bool false, .int .i64 0, .int .i64 0, .string ByteArray.empty]), 8, 80) := by kernel_rfl
set_option maxRecDepth 100000 in
theorem infoTb : (Tryz.prog.info? 45).map (fun i => (i.zero, i.size, i.bytes)) = some (some (.agg #[.int .i64 0, .string ByteArray.empty, .int .i64 0, .int .i64 0, .slice none 0 0]), 5, 64) := by kernel_rfl
theorem OwnR.lit0 {α : Type} (T : TypeId) (m : Nat) (f : α → List Value) (w : World) (base : Nat) (hb : base ≤ w.heap.size) : OwnR T m f (w.alloc (.cells #[] T)) base (.slice (some ⟨w.heap.size, 0, none⟩) 0 0) [] :=
  World.ownsRow_lit w #[] 0 hb (by unfold maxLen; omega) (by simp)
/-- a struct in its box: a row of one -/
theorem OwnR.box {α : Type} (T : TypeId) (m : Nat) (f : α → List Value) (hm : ∀ x, (f x).length = m) (w : World) (x : α) : OwnR T m f (w.alloc (.cells (f x).toArray T)) w.heap.size (.slice (some ⟨w.heap.size, 0, none⟩) 1 1) [x] := by
  have := World.ownsRow_lit (base := w.heap.size) (e := T) (size := m) w (f x).toArray 1 (Nat.le_refl _) (by unfold maxLen; omega) (by simp [hm])
  unfold OwnR
  simpa [flt] using this
end Go.Proofs.YtebldfnocpcddaaGreatDoor
