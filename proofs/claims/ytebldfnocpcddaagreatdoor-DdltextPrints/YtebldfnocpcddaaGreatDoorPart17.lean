/-
  Texts that the proof needs, one behind the other: DtxBox, DtxNb.
-/
import Derived.Test.YtebldfnocpcddaaGreatDoorPart14
import Derived.Test.YtebldfnocpcddaaGreatDoorPart16

/-
  The document's own parser of changes (layer 10) in memory: a text, how far it was read, what is wrong; and how a method of it ends, against the plain parser.
-/
namespace Go.Proofs.YtebldfnocpcddaaGreatDoor
open Go.RowKit

/-- a parser in its block -/
def PBx (T : TypeId) (w : World) (b : Nat) (s : ByteArray) (a e : Nat) : Prop := w.heap[b]? = some (.cells #[.string s, .int .i64 (a : Int), .int .i64 (e : Int)] T (0, 0))
section
variable {T : TypeId} {w w' : World} {b : Nat} {s : ByteArray} {a e : Nat}
theorem PBx.cells (h : PBx T w b s a e) : w.cell? ⟨b, 0, none⟩ = some (.string s) ∧ w.cell? ⟨b, 1, none⟩ = some (.int .i64 (a : Int)) ∧ w.cell? ⟨b, 2, none⟩ = some (.int .i64 (e : Int)) := by
  refine ⟨?_, ?_, ?_⟩ <;> (rw [cell_of_row w b _ _ _ (0, 0) h]; rfl)
theorem PBx.frozen (h : PBx T w b s a e) (i : Nat) : w.frozen? ⟨b, i, none⟩ = false := frozen_of_row w b i _ _ h
theorem PBx.lt (h : PBx T w b s a e) : b < w.heap.size := (Array.getElem?_eq_some_iff.1 h).1
theorem PBx.below (h : PBx T w b s a e) (hb : Below w.heap.size w w') : PBx T w' b s a e := (hb.block b h.lt).trans h
theorem PBx.off {S : Nat → Prop} (h : PBx T w b s a e) (hw : Off S w w') (hn : ¬ S b) : PBx T w' b s a e := (hw.block b h.lt hn).trans h
theorem PBx.setA (h : PBx T w b s a e) (a' : Nat) : PBx T (w.setCell ⟨b, 1, none⟩ (.int .i64 (a' : Int))) b s a' e := by
  have := heap_setCell_same w b 1 _ T (.int .i64 (a' : Int)) h
  show (w.setCell ⟨b, 1, none⟩ (.int .i64 (a' : Int))).heap[b]? = _
  simpa using this
theorem PBx.setE (h : PBx T w b s a e) (e' : Nat) : PBx T (w.setCell ⟨b, 2, none⟩ (.int .i64 (e' : Int))) b s a e' := by
  have := heap_setCell_same w b 2 _ T (.int .i64 (e' : Int)) h
  show (w.setCell ⟨b, 2, none⟩ (.int .i64 (e' : Int))).heap[b]? = _
  simpa using this
end
/-- what a parser comes to: from (a, e) to (a', e'), with x -/
def PTo {α : Type} (m : List UInt8 → Except Er (α × List UInt8)) (s : ByteArray) (a e : Nat) (x : α) (a' e' : Nat) : Prop :=
  a' ≤ s.size ∧ ((e ≠ 0 ∧ a' = a ∧ e' = e) ∨ (e = 0 ∧ ((e' = 0 ∧ m ((bs s).drop a) = .ok (x, (bs s).drop a')) ∨ (e' ≠ 0 ∧ m ((bs s).drop a) = .error ((bs s).drop a', e')))))
/-- how a method ends: its value, the parser's block, all else as it was -/
def PEnd {α : Type} (T : TypeId) (m : List UInt8 → Except Er (α × List UInt8)) (ret : α → Value) (b : Nat) (s : ByteArray) (a e : Nat) (w : World) (en : Ending) (w' : World) : Prop :=
  ∃ (x : α) (a' e' : Nat), en = .returned (ret x) ∧ PBx T w' b s a' e' ∧ Off (fun k => k = b) w w' ∧ PTo m s a e x a' e'
theorem PTo.stay {α : Type} {m : List UInt8 → Except Er (α × List UInt8)} {s : ByteArray} {a e : Nat} (x : α) (ha : a ≤ s.size) (he : e ≠ 0) : PTo m s a e x a e := ⟨ha, .inl ⟨he, rfl, rfl⟩⟩
/-- one parser behind another one -/
theorem PTo.seq {α β : Type} {m : List UInt8 → Except Er (α × List UInt8)} {f : α × List UInt8 → Except Er (β × List UInt8)} {s : ByteArray} {a e a1 e1 a2 e2 : Nat} {x : α} {y : β} (h1 : PTo m s a e x a1 e1) (h2 : PTo (fun r => f (x, r)) s a1 e1 y a2 e2) :
    PTo (fun r => (m r).bind f) s a e y a2 e2 := by
  obtain ⟨l1, h1⟩ := h1
  obtain ⟨l2, h2⟩ := h2
  refine ⟨l2, ?_⟩
  rcases h1 with ⟨n1, rfl, rfl⟩ | ⟨rfl, ⟨rfl, m1⟩ | ⟨n1, m1⟩⟩
  · rcases h2 with ⟨_, rfl, rfl⟩ | ⟨z, _⟩
    · exact .inl ⟨n1, rfl, rfl⟩
    · exact absurd z n1
  · rcases h2 with ⟨z, _⟩ | ⟨_, ⟨rfl, m2⟩ | ⟨n2, m2⟩⟩
    · exact absurd rfl z
    · refine .inr ⟨rfl, .inl ⟨rfl, ?_⟩⟩
      show (m ((bs s).drop a)).bind f = _
      rw [m1]; exact m2
    · refine .inr ⟨rfl, .inr ⟨n2, ?_⟩⟩
      show (m ((bs s).drop a)).bind f = _
      rw [m1]; exact m2
  · rcases h2 with ⟨_, rfl, rfl⟩ | ⟨z, _⟩
    · refine .inr ⟨rfl, .inr ⟨n1, ?_⟩⟩
      show (m ((bs s).drop a)).bind f = _
      rw [m1]; rfl
    · exact absurd z n1
/-- the answer of a parser turned into another one -/
theorem PTo.map {α β : Type} {m : List UInt8 → Except Er (α × List UInt8)} (g : α → β) {s : ByteArray} {a e a1 e1 : Nat} {x : α} (h : PTo m s a e x a1 e1) : PTo (fun r => (m r).bind fun p => .ok (g p.1, p.2)) s a e (g x) a1 e1 := by
  obtain ⟨l1, h1⟩ := h
  refine ⟨l1, ?_⟩
  rcases h1 with h | ⟨rfl, ⟨rfl, m1⟩ | ⟨n1, m1⟩⟩
  · exact .inl h
  · refine .inr ⟨rfl, .inl ⟨rfl, ?_⟩⟩
    show (m ((bs s).drop a)).bind _ = _
    rw [m1]; rfl
  · refine .inr ⟨rfl, .inr ⟨n1, ?_⟩⟩
    show (m ((bs s).drop a)).bind _ = _
    rw [m1]; rfl
theorem PTo.of_eq {α : Type} {m m' : List UInt8 → Except Er (α × List UInt8)} {s : ByteArray} {a e a' e' : Nat} {x : α} (h : PTo m s a e x a' e') (hm : m ((bs s).drop a) = m' ((bs s).drop a)) : PTo m' s a e x a' e' := by
  obtain ⟨l, h⟩ := h
  refine ⟨l, ?_⟩
  rw [hm] at h
  exact h
/-! ### Blanks -/
theorem bl_go {s : ByteArray} {a : Nat} {c : UInt8} (h : (bs s)[a]? = some c) (hc : isBl c = true) : bl ((bs s).drop a) = bl ((bs s).drop (a + 1)) := by
  rw [drop_at h]
  show List.dropWhile isBl (c :: _) = _
  rw [List.dropWhile_cons, if_pos hc]; rfl
theorem bl_end {s : ByteArray} {a : Nat} (h : ∀ c, (bs s)[a]? = some c → isBl c = false) : bl ((bs s).drop a) = (bs s).drop a := bl_id fun c hc => h c (by rwa [List.getElem?_drop, Nat.add_zero] at hc)
theorem isBl_iff {c : UInt8} : isBl c = true ↔ c.toNat = 32 ∨ c.toNat = 9 ∨ c.toNat = 10 := by
  unfold isBl
  simp only [Bool.or_eq_true, decide_eq_true_eq, or_assoc]
/-- the word that comes, as a piece of the text -/
theorem wd_piece {s : ByteArray} {a : Nat} : bs (s.extract a (a + rdN ((bs s).drop a))) = wd ((bs s).drop a) := by
  rw [bs_extract]
  unfold wd
  rw [List.drop_take, show a + rdN ((bs s).drop a) - a = rdN ((bs s).drop a) by omega]
/-! ### The parts of the parser, from the place behind the blanks -/
/-- blanks are passed over, if nothing is wrong -/
def PSk (s : ByteArray) (a e a1 : Nat) : Prop := a1 ≤ s.size ∧ ((e ≠ 0 ∧ a1 = a) ∨ (e = 0 ∧ (bs s).drop a1 = bl ((bs s).drop a)))
theorem PSk.ok {s : ByteArray} {a a1 : Nat} (h : PSk s a 0 a1) : a1 ≤ s.size ∧ bl ((bs s).drop a) = (bs s).drop a1 := ⟨h.1, by rcases h.2 with ⟨h, _⟩ | ⟨_, h⟩ <;> first | exact absurd rfl h | exact h.symm⟩
theorem drop_more {s : ByteArray} {a n : Nat} : ((bs s).drop a).drop n = (bs s).drop (a + n) := by rw [List.drop_drop]
theorem wd_len {s : ByteArray} {a : Nat} (h : a ≤ s.size) : a + (wd ((bs s).drop a)).length ≤ s.size := by
  unfold wd
  have h1 := rdN_le ((bs s).drop a)
  rw [List.length_take, List.length_drop, bs_length] at *
  omega
theorem PTo.name {s : ByteArray} {a a1 : Nat} (h : PSk s a 0 a1) (x : List UInt8) :
    (wd ((bs s).drop a1) = [] → PTo pName s a 0 x a1 5) ∧ (wd ((bs s).drop a1) ≠ [] → rightN (wd ((bs s).drop a1)) = false → PTo pName s a 0 x a1 8) ∧
    (rightN (wd ((bs s).drop a1)) = true → PTo pName s a 0 (wd ((bs s).drop a1)) (a1 + (wd ((bs s).drop a1)).length) 0) := by
  obtain ⟨h1, h2⟩ := h.ok
  refine ⟨fun e => ⟨h1, .inr ⟨rfl, .inr ⟨by decide, ?_⟩⟩⟩, fun e e2 => ⟨h1, .inr ⟨rfl, .inr ⟨by decide, ?_⟩⟩⟩, fun e => ⟨wd_len h1, .inr ⟨rfl, .inl ⟨rfl, ?_⟩⟩⟩⟩
  · unfold pName
    rw [h2, if_pos e]
  · unfold pName
    rw [h2, if_neg e, if_neg (by rw [e2]; decide)]
  · have h0 : wd ((bs s).drop a1) ≠ [] := fun z => by have := (right_len e).1; rw [z] at this; simp at this
    unfold pName
    rw [h2, if_neg h0, if_pos e, drop_more]
theorem PTo.word {s : ByteArray} {a a1 : Nat} (w : List UInt8) (h : PSk s a 0 a1) :
    (wd ((bs s).drop a1) ≠ w → PTo (fun r => (pWord w r).bind fun q => .ok ((), q)) s a 0 () a1 5) ∧ (wd ((bs s).drop a1) = w → PTo (fun r => (pWord w r).bind fun q => .ok ((), q)) s a 0 () (a1 + w.length) 0) := by
  obtain ⟨h1, h2⟩ := h.ok
  refine ⟨fun e => ⟨h1, .inr ⟨rfl, .inr ⟨by decide, ?_⟩⟩⟩, fun e => ⟨by have := wd_len h1; rw [e] at this; exact this, .inr ⟨rfl, .inl ⟨rfl, ?_⟩⟩⟩⟩
  · show (pWord w ((bs s).drop a)).bind _ = _
    unfold pWord
    rw [h2, if_neg e]; rfl
  · show (pWord w ((bs s).drop a)).bind _ = _
    unfold pWord
    rw [h2, if_pos e, drop_more]; rfl
theorem PTo.sign {s : ByteArray} {a a1 : Nat} (c : UInt8) (h : PSk s a 0 a1) :
    ((bs s)[a1]? ≠ some c → PTo (fun r => (pSign c r).bind fun q => .ok ((), q)) s a 0 () a1 5) ∧ ((bs s)[a1]? = some c → PTo (fun r => (pSign c r).bind fun q => .ok ((), q)) s a 0 () (a1 + 1) 0) := by
  obtain ⟨h1, h2⟩ := h.ok
  have e0 : ((bs s).drop a1)[0]? = (bs s)[a1]? := by rw [List.getElem?_drop, Nat.add_zero]
  refine ⟨fun e => ⟨h1, .inr ⟨rfl, .inr ⟨by decide, ?_⟩⟩⟩, fun e => ⟨?_, .inr ⟨rfl, .inl ⟨rfl, ?_⟩⟩⟩⟩
  · show (pSign c ((bs s).drop a)).bind _ = _
    unfold pSign
    rw [h2, e0, if_neg e]; rfl
  · have := (List.getElem?_eq_some_iff.1 e).1
    rw [bs_length] at this
    omega
  · show (pSign c ((bs s).drop a)).bind _ = _
    unfold pSign
    rw [h2, e0, if_pos e, drop_more]; rfl
theorem PTo.kind {s : ByteArray} {a a1 : Nat} {k m : Int} {n e : Nat} (h : PSk s a 0 a1) (hr : readT ((bs s).drop a1) = ((k, m), n, e)) (hn : n ≤ s.size - a1) : PTo pKind s a 0 (k, m) (a1 + n) e := by
  obtain ⟨h1, h2⟩ := h.ok
  refine ⟨by omega, .inr ⟨rfl, ?_⟩⟩
  unfold pKind
  rw [h2, hr]
  by_cases he : e = 0
  · subst he
    exact .inl ⟨rfl, by rw [drop_more]; rfl⟩
  · have h0 := (readT_err hr he).2
    subst h0
    exact .inr ⟨he, if_neg he⟩
theorem PTo.val {s : ByteArray} {a a1 : Nat} {v : Val} {n e : Nat} (null : Bool) (h : PSk s a 0 a1) (hr : readW ((bs s).drop a1) = (v, n, e)) (hn : n ≤ s.size - a1) :
    (e ≠ 0 → PTo (pVal null) s a 0 v a1 e) ∧ (e = 0 → v.1 = 0 → null = false → PTo (pVal null) s a 0 v a1 11) ∧ (e = 0 → ¬ (v.1 = 0 ∧ null = false) → PTo (pVal null) s a 0 v (a1 + n) 0) := by
  obtain ⟨h1, h2⟩ := h.ok
  refine ⟨fun he => ⟨h1, .inr ⟨rfl, .inr ⟨he, ?_⟩⟩⟩, fun he hv hn2 => ⟨h1, .inr ⟨rfl, .inr ⟨by decide, ?_⟩⟩⟩, fun he hv => ⟨by omega, .inr ⟨rfl, .inl ⟨rfl, ?_⟩⟩⟩⟩
  · unfold pVal
    rw [h2, hr]
    exact if_neg he
  · subst he
    unfold pVal
    rw [h2, hr]
    show (if (0 : Nat) = 0 then (if v.1 = 0 ∧ null = false then Except.error ((bs s).drop a1, 11) else _) else _) = _
    rw [if_pos rfl, if_pos ⟨hv, hn2⟩]
  · subst he
    unfold pVal
    rw [h2, hr]
    show (if (0 : Nat) = 0 then (if v.1 = 0 ∧ null = false then _ else Except.ok (v, ((bs s).drop a1).drop n)) else _) = _
    rw [if_pos rfl, if_neg hv, drop_more]
end Go.Proofs.YtebldfnocpcddaaGreatDoor

/-
  The text of a change (layer 10): the place behind blanks.
-/
namespace Go.Proofs.YtebldfnocpcddaaGreatDoor
open Go.RowKit

/-- the place behind blanks, if nothing is wrong -/
def nb (s : ByteArray) (a : Nat) : Nat := s.size - (bl ((bs s).drop a)).length
theorem bl_suffix (r : List UInt8) : r.drop (r.length - (bl r).length) = bl r := by
  unfold bl
  induction r with
  | nil => rfl
  | cons c q ih =>
    rw [List.dropWhile_cons]
    cases hc : isBl c with
    | true =>
      rw [if_pos rfl]
      have hl : (q.dropWhile isBl).length ≤ q.length := (List.dropWhile_sublist _).length_le
      rw [List.length_cons, show q.length + 1 - (q.dropWhile isBl).length = (q.length - (q.dropWhile isBl).length) + 1 by omega, List.drop_succ_cons]
      exact ih
    | false => simp
theorem nb_le {s : ByteArray} {a : Nat} (h : a ≤ s.size) : a ≤ nb s a ∧ nb s a ≤ s.size := by
  unfold nb
  have := bl_len ((bs s).drop a)
  rw [List.length_drop, bs_length] at this
  omega
theorem nb_drop {s : ByteArray} {a : Nat} (h : a ≤ s.size) : (bs s).drop (nb s a) = bl ((bs s).drop a) := by
  have h1 := bl_suffix ((bs s).drop a)
  have h2 := bl_len ((bs s).drop a)
  rw [List.length_drop, bs_length] at h1 h2
  rw [List.drop_drop] at h1
  rw [← h1]
  congr 1
  unfold nb
  omega
/-- the place where it stands if nothing is left to skip -/
theorem nb_eq {s : ByteArray} {a k : Nat} (hk : k ≤ s.size) (h : bl ((bs s).drop a) = (bs s).drop k) : nb s a = k := by
  unfold nb
  rw [h, List.length_drop, bs_length]
  omega
theorem nb_nb {s : ByteArray} {a : Nat} (h : a ≤ s.size) : nb s (nb s a) = nb s a := nb_eq (nb_le h).2 (by rw [nb_drop h, bl_bl])
def nbE (s : ByteArray) (a e : Nat) : Nat := if e = 0 then nb s a else a
theorem nbE_le {s : ByteArray} {a e : Nat} (h : a ≤ s.size) : nbE s a e ≤ s.size := by unfold nbE; split; exact (nb_le h).2; exact h
theorem nbE_sk {s : ByteArray} {a e : Nat} (h : a ≤ s.size) : PSk s a e (nbE s a e) := by
  refine ⟨nbE_le h, ?_⟩
  unfold nbE
  by_cases he : e = 0
  · rw [if_pos he]; exact .inr ⟨he, nb_drop h⟩
  · rw [if_neg he]; exact .inl ⟨he, rfl⟩


theorem bd {w w2 : World} (h : Below w.drew.heap.size w.drew w2) : Below w.heap.size w w2 := (Below.refl w.heap.size w).drew.trans h
theorem bal {w w2 : World} {o : Obj} (h : Below (w.alloc o).heap.size (w.alloc o) w2) : Below w.heap.size w w2 := ((Below.refl w.heap.size w).alloc (Nat.le_refl _) o).trans (h.mono (by simp))
theorem bcell10 {W w1 : World} (hb : Below W.heap.size W w1) : (∀ b o, b < W.heap.size → w1.cell? ⟨b, o, none⟩ = W.cell? ⟨b, o, none⟩) ∧ (∀ b o, b < W.heap.size → w1.frozen? ⟨b, o, none⟩ = W.frozen? ⟨b, o, none⟩) :=
  ⟨fun b o h => hb.cell (p := ⟨b, o, none⟩) h, fun b o h => hb.frozen (p := ⟨b, o, none⟩) h⟩
/-! ### A block with its cells -/
def Bk (T : TypeId) (w : World) (b : Nat) (cs : List Value) : Prop := w.heap[b]? = some (.cells cs.toArray T (0, 0))
section
variable {T : TypeId} {w w' : World} {b : Nat} {cs : List Value}
theorem Bk.at (h : Bk T w b cs) (i : Nat) (v : Value) (hv : cs[i]? = some v) : w.cell? ⟨b, i, none⟩ = some v := by
  rw [cell_of_row w b i _ _ (0, 0) h]
  simpa using hv
theorem Bk.thaw (h : Bk T w b cs) (i : Nat) : w.frozen? ⟨b, i, none⟩ = false := frozen_of_row w b i _ _ h
theorem Bk.lt (h : Bk T w b cs) : b < w.heap.size := (Array.getElem?_eq_some_iff.1 h).1
theorem Bk.below (h : Bk T w b cs) (hb : Below w.heap.size w w') : Bk T w' b cs := (hb.block b h.lt).trans h
theorem Bk.off {S : Nat → Prop} (h : Bk T w b cs) (hw : Off S w w') (hn : ¬ S b) : Bk T w' b cs := (hw.block b h.lt hn).trans h
theorem Bk.new (w : World) (cs : List Value) (T : TypeId) : Bk T (w.alloc (.cells cs.toArray T)) w.heap.size cs := by
  exact heap_alloc_new w _
theorem Bk.set (h : Bk T w b cs) (i : Nat) (v : Value) : Bk T (w.setCell ⟨b, i, none⟩ v) b (cs.set i v) := by
  have := heap_setCell_same w b i _ T v h
  unfold Bk
  rw [this]
  simp
end
end Go.Proofs.YtebldfnocpcddaaGreatDoor
