/-
  The examples that each law of layer utf asks first, and the two tables out of the row's condition.
-/
import Derived.Test.YtbbdmphclnnejaaDoorUtfAllC
import Derived.Test.YtbbdmphclnnejaaDoorTabs
namespace Go.Proofs.YtbbdmphclnnejaaDoor
open Go.RowKit

theorem utab_of {W : World} {l : List (String × DataW Unit)} (hl : (l.filter fun x => x.2.handleName?.isSome) = []) (h1 : ("haulage/utf.least", Rows.laid_haulage_utf_least) ∈ l) (h2 : ("haulage/utf.firstMark", Rows.laid_haulage_utf_firstMark) ∈ l) (h : laidMetH Tryd.prog l W) : UTab W := by
  have h' : laidMet Tryd.prog l W := by
    unfold laidMetH at h
    rw [hl] at h
    exact h
  have e1 : (Rows.laid_haulage_utf_least : DataW Unit) = Lib.tabData .i64 ((List.range 4).map fun i => ((lst (i + 1) : Nat) : Int)) := by kernel_rfl
  have e2 : (Rows.laid_haulage_utf_firstMark : DataW Unit) = Lib.tabData .i64 ((List.range 4).map fun i => ((mark (i + 1) : Nat) : Int)) := by kernel_rfl
  rw [e1] at h1
  rw [e2] at h2
  have t1 := tabIs_of_mem (g := 1) (t := 83) (e := 3) (by kernel_rfl) (by kernel_rfl) Tryd.underlying83 Tryd.underlying3 (by kernel_rfl) (by kernel_rfl) h1 h'
  have t2 := tabIs_of_mem (g := 0) (t := 83) (e := 3) (by kernel_rfl) (by kernel_rfl) Tryd.underlying83 Tryd.underlying3 (by kernel_rfl) (by kernel_rfl) h2 h'
  refine ⟨fun i hi => ?_, fun i hi => ?_⟩
  · have := t2.cell (g := 0) (by kernel_rfl) i (by simpa using hi)
    rw [this]
    simp [List.getD, hi]
  · have := t1.cell (g := 1) (by kernel_rfl) i (by simpa using hi)
    rw [this]
    simp [List.getD, hi]

theorem enc_euro : enc 8364 = [226, 130, 172] := by decide +kernel
theorem sg_bad : sg [237, 160, 128] = none := sg_none (by decide +kernel) (by simp)
theorem sg_ab : (sg [97, 98]).isSome = true := by
  have := sg_text [97, 98] (fun n hn => by
    rcases (show n = 97 ∨ n = 98 by simpa using hn) with rfl | rfl
    · decide
    · decide) []
  rw [show text [97, 98] ++ [] = [97, 98] by decide +kernel, sg_nil] at this
  rw [this]; rfl

theorem cmp_ne {a b : ByteArray} (h : a ≠ b) : (a.toList == b.toList) = false := by
  rw [ByteArray.toList_eq, ByteArray.toList_eq]
  exact beq_eq_false_iff_ne.2 fun e => h (bs_eq e)
theorem cmp_eq {a b : ByteArray} (h : bs a = bs b) : (a.toList == b.toList) = true := by
  rw [bs_eq h]; simp
/-- no encoding begins with another one -/
theorem enc_prefix {n m k : Nat} (hn : isP n = true) (h : (enc m).take k = enc n) (hm : isP m = true) : n = m := by
  have h1 := rd_of_take (l := enc m) (k := k) hn h.symm
  have h2 := rd_enc m [] hm
  rw [List.append_nil, h1] at h2
  simp only [Option.some.injEq, Prod.mk.injEq] at h2
  exact h2.1

theorem count_some (s : ByteArray) (ns : List Nat) (w : World) (ht : UTab w) (hs : s.size ≤ 1000000) (h : sg (bs s) = some ns) :
    Calls Tryd.prog 49 #[.string s] w fun e w' => e = .returned (.int .i64 (ns.length : Nat)) ∧ Below w.heap.size w w' := by
  have := count_any s w ht hs
  rw [h] at this
  exact this
theorem count_none (s : ByteArray) (w : World) (ht : UTab w) (hs : s.size ≤ 1000000) (h : sg (bs s) = none) :
    Calls Tryd.prog 49 #[.string s] w fun e w' => e = .returned (.int .i64 (-1)) ∧ Below w.heap.size w w' := by
  have := count_any s w ht hs
  rw [h] at this
  exact this
theorem right_as (s : ByteArray) (b : Bool) (w : World) (ht : UTab w) (hs : s.size ≤ 1000000) (h : (sg (bs s)).isSome = b) :
    Calls Tryd.prog 46 #[.string s] w fun e w' => e = .returned (.bool b) ∧ Below w.heap.size w w' := by
  have := right_any s w ht hs
  rw [h] at this
  exact this
theorem rsigns_none (s : ByteArray) (w : World) (hs : s.size ≤ 1000000) (h : sg (bs s) = none) :
    Calls Tryd.prog 42 #[.string s] w fun e w' => e = .returned (.tuple #[.slice none 0 0, .bool false]) ∧ Below w.heap.size w w' :=
  (rsigns_any s w hs).mono fun e w' ⟨v, b, h1, h2, h3⟩ => by
    rcases h2 with ⟨ns, h4, _⟩ | ⟨_, h5, h6⟩
    · rw [h] at h4; cases h4
    · rw [h5, h6] at h1; exact ⟨h1, h3⟩
theorem rsigns_some (s : ByteArray) (ns : List Nat) (w : World) (hs : s.size ≤ 1000000) (h : sg (bs s) = some ns) :
    Calls Tryd.prog 42 #[.string s] w fun e w' => ∃ A c, e = .returned (.tuple #[.slice A ns.length c, .bool true]) ∧ IntsAt w' w'.heap.size A (toI ns) ∧ Below w.heap.size w w' :=
  (rsigns_any s w hs).mono fun e w' ⟨v, b, h1, h2, h3⟩ => by
    rcases h2 with ⟨ns', h4, h5, h7⟩ | ⟨h4, _⟩
    · rw [h] at h4; cases h4
      obtain ⟨A, c, rfl, h6⟩ := IntsAt.of_own h5
      rw [toI_length, h7] at h1
      exact ⟨A, c, h1, h6, h3⟩
    · rw [h] at h4; cases h4
theorem txtV_toI {l : List UInt8} {ns : List Nat} (h : sg l = some ns) : txtV (toI ns) = (l, true) := by
  obtain ⟨h1, h2⟩ := sg_back h
  have e : (toI ns).map Int.toNat = ns := by simp [toI, List.map_map, Function.comp_def]
  have ha : (toI ns).all isP = true := by
    rw [List.all_eq_true]
    intro z hz
    obtain ⟨n, hn, rfl⟩ := List.mem_map.1 hz
    exact h2 n hn
  unfold txtV
  rw [if_pos ha, txt, e, h1]
theorem sg_len {l : List UInt8} {ns : List Nat} (h : sg l = some ns) : ns.length ≤ l.length := by
  have := text_length ns
  rwa [(sg_back h).1] at this
end Go.Proofs.YtbbdmphclnnejaaDoor
