/-
  Texts that the proof needs, one behind the other: DtxBackM.
-/
import Derived.Test.YtebldfnocpcddaaGreatDoorPart32
import Derived.Test.YtebldfnocpcddaaGreatDoorPart43

/-
  What the law DdltextBack wants besides: the sizes of what was parsed; the length of a looser text.
-/
namespace Go.Proofs.YtebldfnocpcddaaGreatDoor
open Go.RowKit

theorem emp_size {s : ByteArray} (h : emp s = true) : s.size ≤ 1000000 := by rw [empS_iff.1 h]; exact Nat.zero_le _
theorem right_size {s : ByteArray} (h : rightN (bs s) = true) : s.size ≤ 1000000 := by have := (right_len h).2; rw [bs_length] at this; omega
theorem val_size {k n : Int} {s : ByteArray} (h : rightV k n (bs s) = true) : s.size ≤ 1000000 := by have := rightV_ds h; omega
theorem nul_size {k n : Int} {s : ByteArray} (h : nulV k n s = true) : s.size ≤ 1000000 := by rw [(nulV_iff.1 h).2.2]; exact Nat.zero_le _
theorem can_wf {d : Dp} (hc : canD d = true) (h64 : -9223372036854775808 ≤ d.dn ∧ d.dn < 9223372036854775808) (hc64 : ∀ c ∈ d.cols, -9223372036854775808 ≤ c.dn ∧ c.dn < 9223372036854775808) : WfP d := by
  have hop := plainD_op (canD_plain hc)
  have hnil : zCo d = true → d.cols.length ≤ 1000000 ∧ ∀ c ∈ d.cols, WfPc c := fun h => by
    have : d.cols = [] := by unfold zCo at h; simpa using h
    rw [this]
    exact ⟨Nat.zero_le _, fun c hc => by cases hc⟩
  unfold canD at hc
  simp only [Bool.and_eq_true] at hc
  obtain ⟨hp, ht, hr⟩ := hc
  have h1 := right_size ht
  unfold plainD at hp
  rcases (show d.op = 1 ∨ d.op = 2 ∨ d.op = 3 ∨ d.op = 4 ∨ d.op = 5 ∨ d.op = 6 ∨ d.op = 7 ∨ d.op = 8 by omega) with e | e | e | e | e | e | e | e
  · simp only [e, Int.reduceEq, if_true, Bool.and_eq_true, decide_eq_true_eq] at hp hr
    obtain ⟨a, b, _, _, df, _⟩ := hp
    obtain ⟨cs, ke, l1, l2⟩ := hr
    exact ⟨h1, emp_size a, emp_size b, right_size ke, nul_size df, h64, by omega, fun c hcm => by
      obtain ⟨x, _, y⟩ := colOk_iff.1 (List.all_eq_true.1 cs c hcm)
      exact ⟨right_size x, val_size y, (hc64 c hcm).1, (hc64 c hcm).2⟩⟩
  · simp only [e, Int.reduceEq, if_true, if_false, Bool.and_eq_true] at hp
    obtain ⟨a, b, c, _, _, df, z⟩ := hp
    exact ⟨h1, emp_size a, emp_size b, emp_size c, nul_size df, h64, (hnil z).1, (hnil z).2⟩
  · simp only [e, Int.reduceEq, if_true, if_false, Bool.and_eq_true] at hp hr
    obtain ⟨a, c, _, _, df, z⟩ := hp
    exact ⟨h1, emp_size a, right_size hr, emp_size c, nul_size df, h64, (hnil z).1, (hnil z).2⟩
  · simp only [e, Int.reduceEq, if_true, if_false, Bool.and_eq_true] at hp hr
    obtain ⟨b, c, z⟩ := hp
    exact ⟨h1, right_size hr.1, emp_size b, emp_size c, val_size hr.2.2, h64, (hnil z).1, (hnil z).2⟩
  · simp only [e, Int.reduceEq, if_true, if_false, Bool.and_eq_true] at hp hr
    obtain ⟨b, c, _, _, df, z⟩ := hp
    exact ⟨h1, right_size hr, emp_size b, emp_size c, nul_size df, h64, (hnil z).1, (hnil z).2⟩
  · simp only [e, Int.reduceEq, if_true, if_false, Bool.and_eq_true] at hp hr
    obtain ⟨c, _, _, df, z⟩ := hp
    exact ⟨h1, right_size hr.1, right_size hr.2, emp_size c, nul_size df, h64, (hnil z).1, (hnil z).2⟩
  · simp only [e, Int.reduceEq, if_true, if_false, Bool.and_eq_true] at hp hr
    obtain ⟨b, c, _, df, z⟩ := hp
    exact ⟨h1, right_size hr.1, emp_size b, emp_size c, nul_size df, h64, (hnil z).1, (hnil z).2⟩
  · simp only [e, Int.reduceEq, if_true, if_false, Bool.and_eq_true] at hp hr
    obtain ⟨b, c, _, _, z⟩ := hp
    exact ⟨h1, right_size hr.1, emp_size b, emp_size c, val_size hr.2, h64, (hnil z).1, (hnil z).2⟩
theorem parsed_wf {l : List UInt8} {d : Dp} (h : pAll l = .ok d) : canD d = true ∧ WfP d := by
  obtain ⟨h1, h2, h3⟩ := pAll_back h
  exact ⟨h1, can_wf h1 h2 h3⟩
theorem lse_len (m : Nat) (hm : m ≤ 2) : ∀ (l : List UInt8) (q : Bool), (lse (xB m) q l).1.length ≤ 3 * l.length
  | [], q => Nat.zero_le _
  | c :: r, q => by
    have ih := lse_len m hm r (if c = 34 then !q else q)
    have hx : (xB m).length ≤ 2 := by unfold xB; rw [List.length_take]; omega
    show (c :: ((if c = 32 ∧ (if c = 34 then !q else q) = false then xB m else []) ++ (lse (xB m) (if c = 34 then !q else q) r).1)).length ≤ _
    rw [List.length_cons, List.length_append, List.length_cons]
    have hy : (if c = 32 ∧ (if c = 34 then !q else q) = false then xB m else []).length ≤ 2 := by
      by_cases h : c = 32 ∧ (if c = 34 then !q else q) = false
      · rw [if_pos h]; exact hx
      · rw [if_neg h]; exact Nat.zero_le _
    omega
theorem dtx_len {d : Dp} (hc : canD d = true) (hw : WfP d) : (dtx [32] d []).length ≤ 20000 := by
  rw [← chgP_ok d hc]
  exact (St.chg hw).1
/-- what is written is parsed as it was -/
theorem text_res {d : Dp} {t : ByteArray} (hc : canD d = true) (hw : WfP d) (ht : bs t = dtx [32] d []) : PRes (bs t) d t.size 0 := by
  refine .inl ⟨rfl, ?_, (bs_length t).symm⟩
  rw [ht]
  exact pAll_ok (b0 := []) sp32 (by simp) sp_nil sp_nil hc (c64 hw).1 (c64 hw).2
/-- .. with more blanks, too -/
theorem loose_res {d : Dp} {t u v : ByteArray} {m : Nat} (hc : canD d = true) (hw : WfP d) (ht : bs t = dtx [32] d []) (hu : bs u = (lse (xB m) false (bs t)).1) (hv : bs v = ([10] ++ bs u) ++ [32, 9]) (h92 : (92 : UInt8) ∉ bs t) : PRes (bs v) d v.size 0 := by
  refine .inl ⟨rfl, ?_, (bs_length v).symm⟩
  rw [hv, hu, ht, List.append_assoc]
  rw [ht] at h92
  exact pAll_loose xB_sp (fun c hc => by
    rcases List.mem_cons.1 hc with rfl | h
    · decide
    · cases h) (fun c hc => by
    rcases List.mem_cons.1 hc with rfl | h
    · decide
    · rcases List.mem_cons.1 h with rfl | h
      · decide
      · cases h) hc (c64 hw).1 (c64 hw).2 h92
end Go.Proofs.YtebldfnocpcddaaGreatDoor
