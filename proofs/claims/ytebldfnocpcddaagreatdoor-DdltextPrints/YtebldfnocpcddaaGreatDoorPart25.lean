/-
  Texts that the proof needs, one behind the other: DtxQBox.
-/
import Derived.Test.YtebldfnocpcddaaGreatDoorPart9
import Derived.Test.YtebldfnocpcddaaGreatDoorPart17
import Derived.Test.YtebldfnocpcddaaGreatDoorPart24

/-
  The program's parser of changes (layer 10) in memory: a text and how far it was read; how a method of it ends: by an answer, or by a panic with an error.
-/
namespace Go.Proofs.YtebldfnocpcddaaGreatDoor
open Go.RowKit

/-- the words that the texts of changes begin with, as the program has them -/
def opB (i : Nat) : ByteArray := strB (opT i)
def WTab (w : World) : Prop := ∀ i : Nat, i < 9 → w.cell? ⟨0, i, none⟩ = some (.string (opB i))
theorem WTab.pos {w : World} (h : WTab w) : 0 < w.heap.size := World.block_lt_of_cell? w ⟨0, 0, none⟩ (h 0 (by omega))
theorem WTab.below {w w' : World} {B : Nat} (h : WTab w) (hb : Below B w w') (hB : w.heap.size ≤ B) : WTab w' := fun i hi => (hb.cell (p := ⟨0, i, none⟩) (Nat.lt_of_lt_of_le h.pos hB)).trans (h i hi)
set_option maxRecDepth 100000 in
theorem wtab_of {W : World} {l : List (String × DataW Unit)} (hl : (l.filter fun x => x.2.handleName?.isSome) = []) (h1 : ("haulage/ddltext.firstWords", Rows.laid_haulage_ddltext_firstWords) ∈ l) (h : laidMetH Tryz.prog l W) : WTab W := by
  have h' : laidMet Tryz.prog l W := by
    unfold laidMetH at h
    rw [hl] at h
    exact h
  intro i hi
  obtain ⟨s, hs, hd⟩ := strtab_of_mem (g := 0) (t := 77) (e := 9) (n := 9) (by kernel_rfl) (by kernel_rfl) Tryz.underlying77 Tryz.underlying9 (by kernel_rfl) (by kernel_rfl) h1 h' i hi
  rw [hs]
  have : s = opB i := by
    apply bs_eq
    have inj : ∀ x y : List UInt8, (some (DataW.lit (.string x)) : Option (DataW Unit)) = some (.lit (.string y)) → y = x := fun x y h => by simpa using h.symm
    match i, hi with
    | 0, _ => exact inj _ _ hd
    | 1, _ => exact inj _ _ hd
    | 2, _ => exact inj _ _ hd
    | 3, _ => exact inj _ _ hd
    | 4, _ => exact inj _ _ hd
    | 5, _ => exact inj _ _ hd
    | 6, _ => exact inj _ _ hd
    | 7, _ => exact inj _ _ hd
    | 8, _ => exact inj _ _ hd
  rw [this]
/-- all tables of the package level that the parser reads -/
def Tbs (w : World) : Prop := UTab w ∧ KTab w ∧ WTab w
theorem Tbs.below {w w' : World} (h : Tbs w) (hb : Below w.heap.size w w') : Tbs w' := ⟨h.1.below hb (Nat.le_refl _), h.2.1.below hb (Nat.le_refl _), h.2.2.below hb (Nat.le_refl _)⟩

/-- the program's parser in its block, with the tables -/
structure QBx (T : TypeId) (w : World) (b : Nat) (s : ByteArray) (a : Nat) : Prop where
  box : w.heap[b]? = some (.cells #[.string s, .int .i64 (a : Int)] T (0, 0))
  le : a ≤ s.size
  tbs : Tbs w
section
variable {T : TypeId} {w w' : World} {b : Nat} {s : ByteArray} {a : Nat}
theorem QBx.cells (h : QBx T w b s a) : w.cell? ⟨b, 0, none⟩ = some (.string s) ∧ w.cell? ⟨b, 1, none⟩ = some (.int .i64 (a : Int)) := by
  refine ⟨?_, ?_⟩ <;> (rw [cell_of_row w b _ _ _ (0, 0) h.box]; rfl)
theorem QBx.frozen (h : QBx T w b s a) (i : Nat) : w.frozen? ⟨b, i, none⟩ = false := frozen_of_row w b i _ _ h.box
theorem QBx.lt (h : QBx T w b s a) : b < w.heap.size := (Array.getElem?_eq_some_iff.1 h.box).1
theorem QBx.below (h : QBx T w b s a) (hb : Below w.heap.size w w') : QBx T w' b s a := ⟨(hb.block b h.lt).trans h.box, h.le, h.tbs.below hb⟩
theorem QBx.ne (h : QBx T w b s a) : b ≠ 5 ∧ b ≠ 6 ∧ b ≠ 1 ∧ b ≠ 0 := by
  obtain ⟨c0, c1⟩ := h.cells
  refine ⟨fun e => ?_, fun e => ?_, fun e => ?_, fun e => ?_⟩ <;> subst e
  · have := h.tbs.1.1 0 (by omega); rw [c0] at this; cases this
  · have := h.tbs.1.2 0 (by omega); rw [c0] at this; cases this
  · have := h.tbs.2.1 1 (by omega); rw [c1] at this; cases this
  · have := h.tbs.2.2 1 (by omega); rw [c1] at this; cases this
/-- behind whatever touches the parser's block alone the tables are as they were -/
theorem QBx.tabs (h : QBx T w b s a) (hw : Off (fun k => k = b) w w') : Tbs w' := by
  obtain ⟨n1, n2, n3, n4⟩ := h.ne
  exact ⟨⟨fun i hi => hw.keep (h.tbs.1.1 i hi) (fun e => n1 e.symm), fun i hi => hw.keep (h.tbs.1.2 i hi) (fun e => n2 e.symm)⟩, fun i hi => hw.keep (h.tbs.2.1 i hi) (fun e => n3 e.symm), fun i hi => hw.keep (h.tbs.2.2 i hi) (fun e => n4 e.symm)⟩
theorem QBx.set (h : QBx T w b s a) (a' : Nat) (ha : a' ≤ s.size) : QBx T (w.setCell ⟨b, 1, none⟩ (.int .i64 (a' : Int))) b s a' ∧ Off (fun k => k = b) w (w.setCell ⟨b, 1, none⟩ (.int .i64 (a' : Int))) := by
  have hof := Off.set w b 1 (.int .i64 (a' : Int))
  refine ⟨⟨?_, ha, h.tabs hof⟩, hof⟩
  have := heap_setCell_same w b 1 _ T (.int .i64 (a' : Int)) h.box
  show (w.setCell ⟨b, 1, none⟩ (.int .i64 (a' : Int))).heap[b]? = _
  simpa using this
end
/-- a panic with an error -/
abbrev pan (e : Nat) : Ending := .panicked [{ v := .iface 31 (.int .i64 (e : Int)), recovered := false }]
/-- it is parsed: x, up to a' -/
def QTo {α : Type} (m : List UInt8 → Except Er (α × List UInt8)) (s : ByteArray) (a : Nat) (x : α) (a' : Nat) : Prop := m ((bs s).drop a) = .ok (x, (bs s).drop a')
/-- it is not: at a', by e -/
def QNo {α : Type} (m : List UInt8 → Except Er (α × List UInt8)) (s : ByteArray) (a a' e : Nat) : Prop := e ≠ 0 ∧ m ((bs s).drop a) = .error ((bs s).drop a', e)
/-- how a method ends -/
def QEnd {α : Type} (T : TypeId) (m : List UInt8 → Except Er (α × List UInt8)) (ret : α → Value) (b : Nat) (s : ByteArray) (a : Nat) (w : World) (en : Ending) (w' : World) : Prop :=
  Off (fun k => k = b) w w' ∧ ((∃ x a', en = .returned (ret x) ∧ QBx T w' b s a' ∧ QTo m s a x a') ∨ (∃ a' e, en = pan e ∧ QBx T w' b s a' ∧ QNo m s a a' e))
theorem QEnd.ok {α : Type} {T : TypeId} {m : List UInt8 → Except Er (α × List UInt8)} {ret : α → Value} {b : Nat} {s : ByteArray} {a : Nat} {w w' : World} {en : Ending} (x : α) (a' : Nat) (h1 : en = .returned (ret x)) (h2 : QBx T w' b s a') (h3 : Off (fun k => k = b) w w') (h4 : QTo m s a x a') : QEnd T m ret b s a w en w' := ⟨h3, .inl ⟨x, a', h1, h2, h4⟩⟩
theorem QEnd.no {α : Type} {T : TypeId} {m : List UInt8 → Except Er (α × List UInt8)} {ret : α → Value} {b : Nat} {s : ByteArray} {a : Nat} {w w' : World} {en : Ending} (a' e : Nat) (h1 : en = pan e) (h2 : QBx T w' b s a') (h3 : Off (fun k => k = b) w w') (h4 : QNo m s a a' e) : QEnd T m ret b s a w en w' := ⟨h3, .inr ⟨a', e, h1, h2, h4⟩⟩
/-- parsers one behind the other -/
theorem QTo.then {α β : Type} {m : List UInt8 → Except Er (α × List UInt8)} {f : α × List UInt8 → Except Er (β × List UInt8)} {s : ByteArray} {a a1 a2 : Nat} {x : α} {y : β} (h1 : QTo m s a x a1) (h2 : QTo (fun r => f (x, r)) s a1 y a2) : QTo (fun r => (m r).bind f) s a y a2 := by
  show (m ((bs s).drop a)).bind f = _
  rw [h1]; exact h2
theorem QTo.thenNo {α β : Type} {m : List UInt8 → Except Er (α × List UInt8)} {f : α × List UInt8 → Except Er (β × List UInt8)} {s : ByteArray} {a a1 a2 e : Nat} {x : α} (h1 : QTo m s a x a1) (h2 : QNo (fun r => f (x, r)) s a1 a2 e) : QNo (fun r => (m r).bind f) s a a2 e := by
  refine ⟨h2.1, ?_⟩
  show (m ((bs s).drop a)).bind f = _
  rw [h1]; exact h2.2
theorem QNo.bind {α β : Type} {m : List UInt8 → Except Er (α × List UInt8)} {f : α × List UInt8 → Except Er (β × List UInt8)} {s : ByteArray} {a a2 e : Nat} (h1 : QNo m s a a2 e) : QNo (fun r => (m r).bind f) s a a2 e := by
  refine ⟨h1.1, ?_⟩
  show (m ((bs s).drop a)).bind f = _
  rw [h1.2]; rfl
/-- a parser without an answer of its own -/
abbrev un (m : List UInt8 → Except Er (List UInt8)) : List UInt8 → Except Er (Unit × List UInt8) := fun r => (m r).bind fun q => .ok ((), q)
/-- the word that comes, as bytes -/
def wdB (s : ByteArray) (a : Nat) : ByteArray := strB (wd (bl ((bs s).drop a)))
theorem wdB_size {s : ByteArray} {a : Nat} (h : a ≤ s.size) : nb s a + (wdB s a).size ≤ s.size := by
  have h1 := wd_len (nb_le h).2
  rw [nb_drop h] at h1
  show _ + (wd (bl ((bs s).drop a))).toArray.size ≤ _
  simpa using h1
def twB (s : ByteArray) (a : Nat) (x : ByteArray) : Bool := decide (wd (bl ((bs s).drop a)) = bs x)
def twA (s : ByteArray) (a : Nat) (x : ByteArray) : Nat := if twB s a x = true then nb s a + x.size else nb s a
def tmB (s : ByteArray) (a : Nat) (c : UInt8) : Bool := decide ((bl ((bs s).drop a))[0]? = some c)
def tmA (s : ByteArray) (a : Nat) (c : UInt8) : Nat := if tmB s a c = true then nb s a + 1 else nb s a
theorem twA_le {s x : ByteArray} {a : Nat} (h : a ≤ s.size) : twA s a x ≤ s.size := by
  unfold twA
  split
  · rename_i e
    have h1 := wd_len (nb_le h).2
    rw [nb_drop h, show wd (bl ((bs s).drop a)) = bs x by simpa [twB] using e, bs_length] at h1
    exact h1
  · exact (nb_le h).2
theorem tmA_le {s : ByteArray} {a : Nat} {c : UInt8} (h : a ≤ s.size) : tmA s a c ≤ s.size := by
  unfold tmA
  split
  · rename_i e
    have h1 : (bl ((bs s).drop a))[0]? = some c := by simpa [tmB] using e
    have h2 := (List.getElem?_eq_some_iff.1 h1).1
    rw [← nb_drop h, List.length_drop, bs_length] at h2
    omega
  · exact (nb_le h).2
theorem tw_yes {s x : ByteArray} {a : Nat} (ha : a ≤ s.size) (h : twB s a x = true) : pWord (bs x) ((bs s).drop a) = .ok ((bs s).drop (twA s a x)) := by
  have e : wd (bl ((bs s).drop a)) = bs x := by simpa [twB] using h
  unfold pWord twA
  rw [if_pos e, if_pos h, ← nb_drop ha, drop_more, bs_length]
theorem tw_no {s x : ByteArray} {a : Nat} (ha : a ≤ s.size) (h : twB s a x = false) : pWord (bs x) ((bs s).drop a) = .error ((bs s).drop (twA s a x), 5) := by
  have e : ¬ wd (bl ((bs s).drop a)) = bs x := by simpa [twB] using h
  unfold pWord twA
  rw [if_neg e, if_neg (by rw [h]; decide), nb_drop ha]
theorem tm_yes {s : ByteArray} {a : Nat} {c : UInt8} (ha : a ≤ s.size) (h : tmB s a c = true) : pSign c ((bs s).drop a) = .ok ((bs s).drop (tmA s a c)) := by
  have e : (bl ((bs s).drop a))[0]? = some c := by simpa [tmB] using h
  unfold pSign tmA
  rw [if_pos e, if_pos h, ← nb_drop ha, drop_more]
theorem tm_no {s : ByteArray} {a : Nat} {c : UInt8} (ha : a ≤ s.size) (h : tmB s a c = false) : pSign c ((bs s).drop a) = .error ((bs s).drop (tmA s a c), 5) := by
  have e : ¬ (bl ((bs s).drop a))[0]? = some c := by simpa [tmB] using h
  unfold pSign tmA
  rw [if_neg e, if_neg (by rw [h]; decide), nb_drop ha]
end Go.Proofs.YtebldfnocpcddaaGreatDoor
