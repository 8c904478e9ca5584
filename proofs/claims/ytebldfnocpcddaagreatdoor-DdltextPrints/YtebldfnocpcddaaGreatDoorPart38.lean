/-
  Texts that the proof needs, one behind the other: DtxLawM.
-/
import Derived.Test.YtebldfnocpcddaaGreatDoorPart36
import Derived.Test.YtebldfnocpcddaaGreatDoorPart37

/-
  What the laws of layer 10 want besides: sizes; two changes are alike just if their texts are.
-/
namespace Go.Proofs.YtebldfnocpcddaaGreatDoor
open Go.RowKit

theorem WfP_of {w : World} {d : Db} (h : fewD d.p = true) (hi : InD w d) : WfP d.p := by
  obtain ⟨h1, h2⟩ := fewD_iff.1 h
  unfold fewT at h2
  simp only [Bool.and_eq_true, decide_eq_true_eq, List.all_eq_true, shortB_iff] at h2
  obtain ⟨_, _, _, _, _, _, _, _, hdn, _, _, _, _, hc⟩ := hi
  have h3 := h2.1
  refine ⟨by omega, by omega, by omega, by omega, by omega, wf64 hdn, by have h4 : (d.p.cols.length : Int) ≤ 20 := h3; omega, fun c hcm => ?_⟩
  have := h2.2.2 c hcm
  have hr := wf64 (hc c hcm).2.2.2.2.2.1
  exact ⟨by omega, by omega, hr.1, hr.2⟩
theorem same_iff (a b : Db) : sameD a b = true ↔ a.p = b.p := by
  rw [sameD_iff]
  constructor
  · rintro ⟨h1, h2, h3, h4, h5, h6, h7, h8, h9, h10, h11, h12, h13⟩
    obtain ⟨⟨o, tb, co, to2, ke, tk, tm, nl, dk, dn, ds, cols⟩, A, cap⟩ := a
    obtain ⟨⟨o', tb', co', to2', ke', tk', tm', nl', dk', dn', ds', cols'⟩, A', cap'⟩ := b
    have hc : cols = cols' := by
      refine List.ext_getElem? fun j => ?_
      have h12 : cols.length = cols'.length := h12
      by_cases hj : j < cols.length
      · obtain ⟨x, hx⟩ : ∃ x, cols[j]? = some x := ⟨cols[j], by simp [hj]⟩
        obtain ⟨y, hy⟩ : ∃ y, cols'[j]? = some y := ⟨cols'[j]'(by omega), by simp [show j < cols'.length by omega]⟩
        rw [hx, hy, eqC_iff.1 (h13 j x y hx hy)]
      · rw [List.getElem?_eq_none (by omega), List.getElem?_eq_none (by omega)]
    have h1 : o = o' := h1
    have h2 : tb = tb' := h2
    have h3 : co = co' := h3
    have h4 : to2 = to2' := h4
    have h5 : ke = ke' := h5
    have h6 : tk = tk' := h6
    have h7 : tm = tm' := h7
    have h8 : nl = nl' := h8
    have h9 : dk = dk' := h9
    have h10 : dn = dn' := h10
    have h11 : ds = ds' := h11
    subst h1 h2 h3 h4 h5 h6 h7 h8 h9 h10 h11 hc
    rfl
  · intro h
    rw [h]
    exact ⟨rfl, rfl, rfl, rfl, rfl, rfl, rfl, rfl, rfl, rfl, rfl, pair_refl _⟩
theorem same_p (a b : Db) (h : a.p = b.p) : sameD a b = true := (same_iff a b).2 h
theorem c64 {d : Dp} (h : WfP d) : (-9223372036854775808 ≤ d.dn ∧ d.dn < 9223372036854775808) ∧ ∀ c ∈ d.cols, -9223372036854775808 ≤ c.dn ∧ c.dn < 9223372036854775808 :=
  ⟨h.2.2.2.2.2.1, fun c hc => (h.2.2.2.2.2.2.2 c hc).2.2⟩
theorem strB_inj {a b : List UInt8} (h : strB a = strB b) : a = b := congrArg bs h
/-- unlike changes have unlike texts -/
theorem apart_eq (a b : Db) (ha : canD a.p = true) (hb : canD b.p = true) (hwa : WfP a.p) (hwb : WfP b.p) : ((strB (dtx [32] a.p [])).toList == (strB (dtx [32] b.p [])).toList) = sameD a b := by
  apply bool_eq
  rw [same_iff]
  constructor
  · intro h
    have h2 := beq_iff_eq.1 h
    rw [ByteArray.toList_eq, ByteArray.toList_eq] at h2
    exact dtx_apart ha hb (c64 hwa).1 (c64 hwb).1 (c64 hwa).2 (c64 hwb).2 h2
  · intro h
    rw [h]; simp
theorem pprint_no (d : Db) (w : World) (hT : Tbs w) (hA : DdlAt w w.heap.size d) (hP : WfP d.p) (hc : canD d.p = false) :
    Calls Tryz.prog 9 #[DV d] w fun e w' => e = .returned (.tuple #[.string ⟨#[]⟩, .int .i64 2]) ∧ Below w.heap.size w w' := by
  have h := pprint_any d w hT hA hP
  have hn : ¬ canD d.p = true := fun h => by rw [hc] at h; cases h
  rw [show prD d.p = ⟨#[]⟩ from if_neg hn, show prE d.p = 2 from if_neg hn] at h
  exact h
theorem pprint_yes (d : Db) (w : World) (t : ByteArray) (hT : Tbs w) (hA : DdlAt w w.heap.size d) (hP : WfP d.p) (hc : canD d.p = true) (ht : strB (dtx [32] d.p []) = t) :
    Calls Tryz.prog 9 #[DV d] w fun e w' => e = .returned (.tuple #[.string t, .int .i64 0]) ∧ Below w.heap.size w w' := by
  have h := pprint_any d w hT hA hP
  rw [show prD d.p = strB (dtx [32] d.p []) from if_pos hc, show prE d.p = 0 from if_pos hc, ht] at h
  exact h
end Go.Proofs.YtebldfnocpcddaaGreatDoor
