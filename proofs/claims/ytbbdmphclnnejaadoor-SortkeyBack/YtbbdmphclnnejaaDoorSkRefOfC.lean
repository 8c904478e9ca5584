/-
  Contracts of the document's own Of, Right and Same of layer 7, and of the law's own Few.
-/
import Derived.Test.YtbbdmphclnnejaaDoorSkRefC
import Derived.BigQuiet
namespace Go.Proofs.YtbbdmphclnnejaaDoor
open Go.RowKit

set_option maxRecDepth 100000 in
set_option maxHeartbeats 800000 in
theorem rof7_any (A : Option Addr) (c : Nat) (l : List Vb) (w : World) (hA : ValsAt w w.heap.size A l) (hl : l.length ≤ 1000) (hi : ∀ v ∈ vls l, in64 v) (hr : allR (vls l) = true) :
    Calls Tryd.prog 12 #[.slice A l.length c] w fun e w' => e = .returned (.string ⟨(ofK (vls l)).toArray⟩) ∧ Below w.heap.size w w' := by
  have HA := Lib.hid hA; clear hA
  have HI := Lib.hid hi; clear hi
  have HR := Lib.hid hr; clear hr
  go_enter Tryd.func12, Tryd.ntmps12
  go_wp2_with fail
  go_loopw [3, 4] (fun x i wr => ∃ (k : Nat) (t : ByteArray), k ≤ l.length ∧ i = .int .i64 k ∧ x = .string t ∧ Hid (bs t = ofK ((vls l).take k)) ∧ Below w.heap.size w wr) (fun _ i _ => l.length - (intOf i).toNat)
  case atStart => exact ⟨0, ⟨#[]⟩, by omega, rfl, rfl, rfl, Below.refl _ _⟩
  case round =>
    obtain ⟨k, t, hk, rfl, rfl, Ht, hb⟩ := hrel
    have hsz2 := hb.size
    by_cases hlt : k < l.length
    · obtain ⟨b, off, rfl, hbB, c0, c1, c2⟩ := (HA.out.below hb).get k hlt
      have Hv := Lib.hid (vls_at l k hlt)
      have Hin := Lib.hid (HI.out _ (List.mem_of_getElem? Hv.out))
      have Hrv : Hid (rightL (vl l[k]) = true) := by
        have h := HR.out
        unfold allR at h
        rw [List.all_eq_true] at h
        exact h _ (List.mem_of_getElem? Hv.out)
      have He := Lib.hid (ofK_take Hv.out)
      have Hsz : Hid (t.size ≤ 243000) := by
        show _ ≤ _
        have h1 := ofK_len (allR_take HR.out k)
        have h2 := List.length_take_le k (vls l)
        rw [size_of Ht.out]; omega
      generalize l[k] = x at c0 c1 c2 Hv Hin Hrv He
      obtain ⟨xk, xn, xs⟩ := x
      simp only at c0 c1 c2
      have Hks : Hid ((key xk xn (bs xs)).length ≤ 243) := key_len Hrv.out
      have hadd := fun w' => run_string_add_sum (P := Tryd.prog) (w := w') t ⟨(key xk xn (bs xs)).toArray⟩ (by have := Hsz.out; have := Hks.out; rw [ba_size (key xk xn (bs xs))]; omega)
      have Hn : Hid (bs (t ++ ⟨(key xk xn (bs xs)).toArray⟩) = ofK ((vls l).take (k + 1))) := by
        show _ = _
        rw [He.out, bs_append, Ht.out, bs_mk]; rfl
      go_wp2_with fail
      refine (rone7_any xk xn xs _ Hrv.out Hin.out.1 Hin.out.2).mono ?_
      rintro e w1 ⟨rfl, hb1⟩
      go_wp2_with fail
      go_roundw
      case rel => exact ⟨k + 1, _, by omega, by go_num, rfl, Hn.out, hb.trans (hb1.mono hsz2)⟩
      case measure => simp [intOf]; omega
    · have Hn : Hid (t = ⟨(ofK (vls l)).toArray⟩) := by
        refine str_of ?_
        rw [Ht.out, List.take_of_length_le (by rw [vls_length]; omega)]
      go_wp2_with fail
      go_ret
      exact ⟨by rw [← Hn.out]; rfl, hb⟩

set_option maxRecDepth 100000 in
set_option maxHeartbeats 800000 in
theorem rright7_any (A : Option Addr) (c : Nat) (l : List Vb) (w : World) (hA : ValsAt w w.heap.size A l) (hl : l.length ≤ 1000) (hi : ∀ v ∈ vls l, in64 v) :
    Calls Tryd.prog 11 #[.slice A l.length c] w fun e w' => e = .returned (.bool (allR (vls l))) ∧ Below w.heap.size w w' := by
  have HA := Lib.hid hA; clear hA
  have HI := Lib.hid hi; clear hi
  go_enter Tryd.func11, Tryd.ntmps11
  go_wp2_with fail
  go_loopw [3] (fun i wr => ∃ k : Nat, k ≤ l.length ∧ i = .int .i64 k ∧ Hid (∀ j v, (vls l)[j]? = some v → j < k → rightL v = true) ∧ Below w.heap.size w wr) (fun i _ => l.length - (intOf i).toNat)
  case atStart => exact ⟨0, by omega, rfl, fun j v _ h => absurd h (by omega), Below.refl _ _⟩
  case round =>
    obtain ⟨k, hk, rfl, hall, hb⟩ := hrel
    have hsz2 := hb.size
    by_cases hlt : k < l.length
    · obtain ⟨b, off, rfl, hbB, c0, c1, c2⟩ := (HA.out.below hb).get k hlt
      have Hv := Lib.hid (vls_at l k hlt)
      have Hin := Lib.hid (HI.out _ (List.mem_of_getElem? Hv.out))
      generalize l[k] = x at c0 c1 c2 Hv Hin
      obtain ⟨xk, xn, xs⟩ := x
      simp only at c0 c1 c2
      have HR := Lib.hid (fun w => vrright_any xk xn xs w Hin.out.1 Hin.out.2)
      cases hr : rightV xk xn (bs xs)
      · rw [hr] at HR
        have Hno : Hid (allR (vls l) = false) := allR_not Hv.out (by exact hr)
        clear hr
        go_wp2_with fail
        refine (HR.out _).mono ?_
        rintro e w1 ⟨rfl, hb1⟩
        go_wp2_with fail
        go_ret
        exact ⟨by rw [Hno.out]; rfl, hb.trans (hb1.mono hsz2)⟩
      · rw [hr] at HR
        have Hr := Lib.hid hr; clear hr
        have Hall : Hid (∀ j v, (vls l)[j]? = some v → j < k + 1 → rightL v = true) := fun j v hj hk => by
          by_cases e : j = k
          · subst e
            rw [Hv.out] at hj
            cases hj
            exact Hr.out
          · exact hall.out j v hj (by omega)
        go_wp2_with fail
        refine (HR.out _).mono ?_
        rintro e w1 ⟨rfl, hb1⟩
        go_wp2_with fail
        go_roundw
        case rel => exact ⟨k + 1, by omega, by go_num, Hall.out, hb.trans (hb1.mono hsz2)⟩
        case measure => simp [intOf]; omega
    · have Hyes : Hid (allR (vls l) = true) := allR_of fun j v hj => hall.out j v hj (by have := (List.getElem?_eq_some_iff.1 hj).1; rw [vls_length] at this; omega)
      go_wp2_with fail
      go_ret
      exact ⟨by rw [Hyes.out]; rfl, hb⟩

/-- what Few asks -/
def few (l : List Vb) : Bool := decide (l.length ≤ 12) && l.all fun v => decide (v.2.2.size ≤ 300)
theorem few_size {l : List Vb} (h : few l = true) : l.length ≤ 12 ∧ ∀ v ∈ l, v.2.2.size ≤ 300 := by
  simpa [few] using h
set_option maxRecDepth 100000 in
set_option maxHeartbeats 800000 in
theorem few_any (A : Option Addr) (c : Nat) (l : List Vb) (w : World) (hA : ValsAt w w.heap.size A l) (hl : l.length ≤ maxLen) :
    Calls Tryd.prog 9 #[.slice A l.length c] w fun e w' => e = .returned (.bool (few l)) ∧ w = w' := by
  unfold maxLen at hl
  have HA := Lib.hid hA; clear hA
  by_cases h12 : 12 < l.length
  · have d : decide (12 < (l.length : Int)) = true := by simp; omega
    have Hno : Hid (few l = false) := by
      show _ = _
      unfold few
      rw [show decide (l.length ≤ 12) = false by simp; omega]; rfl
    go_enter Tryd.func9, Tryd.ntmps9
    go_wp2_with fail
    go_ret
    exact ⟨by rw [Hno.out]; rfl, rfl⟩
  have d : decide (12 < (l.length : Int)) = false := by simp; omega
  go_enter Tryd.func9, Tryd.ntmps9
  go_wp2_with fail
  go_loop [3] (fun i => ∃ k : Nat, k ≤ l.length ∧ i = .int .i64 k ∧ Hid (∀ j (hj : j < l.length), j < k → l[j].2.2.size ≤ 300)) (fun i => l.length - (intOf i).toNat)
  case atStart => exact ⟨0, by omega, rfl, fun j _ h => absurd h (by omega)⟩
  case round =>
    obtain ⟨k, hk, rfl, hall⟩ := hrel
    by_cases hlt : k < l.length
    · obtain ⟨b, off, rfl, hbB, c0, c1, c2⟩ := HA.out.get k hlt
      by_cases h3 : 300 < l[k].2.2.size
      · have Hno : Hid (few l = false) := by
          show _ = _
          cases hf : few l with
          | false => rfl
          | true =>
            have := (few_size hf).2 l[k] (List.getElem_mem hlt)
            omega
        generalize l[k] = x at c0 c1 c2 h3
        obtain ⟨xk, xn, xs⟩ := x
        simp only at c0 c1 c2 h3
        have d1 : decide (300 < (xs.size : Int)) = true := by simp; omega
        go_wp2_with fail
        go_ret
        exact ⟨by rw [Hno.out]; rfl, rfl⟩
      · have Hm : Hid (∀ j (hj : j < l.length), j < k + 1 → l[j].2.2.size ≤ 300) := fun j hj h => by
          by_cases e : j = k
          · subst e; omega
          · exact hall.out j hj (by omega)
        generalize l[k] = x at c0 c1 c2 h3
        obtain ⟨xk, xn, xs⟩ := x
        simp only at c0 c1 c2 h3
        have d1 : decide (300 < (xs.size : Int)) = false := by simp; omega
        go_wp2_with fail
        go_round
        case rel => exact ⟨k + 1, by omega, by go_num, Hm.out⟩
        case measure => simp [intOf]; omega
    · have Hyes : Hid (few l = true) := by
        show _ = _
        unfold few
        rw [Bool.and_eq_true, List.all_eq_true]
        refine ⟨by simp; omega, fun v hv => ?_⟩
        obtain ⟨j, hj, rfl⟩ := List.mem_iff_getElem.1 hv
        have := hall.out j hj (by omega)
        simpa using this
      go_wp2_with fail
      go_ret
      exact ⟨by rw [Hyes.out]; rfl, rfl⟩
end Go.Proofs.YtbbdmphclnnejaaDoor
