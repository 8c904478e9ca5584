/-
  Contract of package sortkey's Of.
-/
import Derived.Test.YtbbdmphclnnejaaDoorSkPutC
import Derived.Test.YtbbdmphclnnejaaDoorValRightC
namespace Go.Proofs.YtbbdmphclnnejaaDoor
open Go.RowKit

theorem bthen {w a b : World} (h : Below w.heap.size w a) (h2 : Below a.heap.size a b) : Below w.heap.size w b := h.trans (h2.mono h.size)
theorem new_lt' {w w1 : World} {o : Obj} (hb : Below (w.alloc o).heap.size (w.alloc o) w1) : w.heap.size < w1.heap.size := by have := hb.size; simp at this; omega
/-- are all of them right? -/
def allR (l : List Vl) : Bool := l.all rightL
theorem allR_take {l : List Vl} (h : allR l = true) (k : Nat) : allR (l.take k) = true := by
  unfold allR at *
  rw [List.all_eq_true] at *
  exact fun x hx => h x (List.mem_of_mem_take hx)
theorem allR_not {l : List Vl} {k : Nat} {v : Vl} (hk : l[k]? = some v) (hv : rightL v = false) : allR l = false := by
  cases h : allR l with
  | false => rfl
  | true =>
    unfold allR at h
    rw [List.all_eq_true] at h
    have := h v (List.mem_of_getElem? hk)
    rw [hv] at this; cases this
theorem allR_of {l : List Vl} (h : ∀ (k : Nat) v, l[k]? = some v → rightL v = true) : allR l = true := by
  unfold allR
  rw [List.all_eq_true]
  intro x hx
  obtain ⟨k, hk⟩ := List.mem_iff_getElem?.1 hx
  exact h k x hk
/-- what Of returns -/
def ofV (l : List Vl) : Value := if allR l then .tuple #[.string ⟨(ofK l).toArray⟩, .int .i64 0] else .tuple #[.string ⟨#[]⟩, .int .i64 2]
theorem key_len {k n : Int} {l : List UInt8} (h : rightV k n l = true) : (key k n l).length ≤ 243 := by
  rcases rightV_form h with ⟨rfl, rfl, rfl⟩ | ⟨rfl, p1, p2, rfl⟩ | ⟨rfl, rfl⟩ | ⟨rfl, rfl, hl, hs⟩ | ⟨rfl, rfl, hl⟩
  · simp [key_0]
  · rw [key_1, List.length_cons, be_length]; omega
  · rw [key_2, List.length_cons, be_length]; omega
  · have := esc_len l
    rw [key_3, List.length_cons, List.length_append]; simp; omega
  · have := esc_len l
    rw [key_4, List.length_cons, List.length_append]; simp; omega
theorem ofK_len : ∀ {l : List Vl}, allR l = true → (ofK l).length ≤ 243 * l.length
  | [], _ => by simp [ofK]
  | v :: l, h => by
    have h' : rightL v = true ∧ allR l = true := by simpa [allR] using h
    have ih := ofK_len h'.2
    have := key_len (k := v.1) (n := v.2.1) (l := v.2.2) h'.1
    rw [ofK_cons, List.length_append, List.length_cons]
    unfold keyL; omega
theorem ofK_take {l : List Vl} {k : Nat} {v : Vl} (h : l[k]? = some v) : ofK (l.take (k + 1)) = ofK (l.take k) ++ keyL v := by
  obtain ⟨h1, rfl⟩ := List.getElem?_eq_some_iff.1 h
  rw [List.take_succ_eq_append_getElem h1, ofK_snoc]

set_option maxRecDepth 100000 in
set_option maxHeartbeats 800000 in
theorem sof_any (A : Option Addr) (c : Nat) (l : List Vb) (w : World) (ht : UTab w) (hA : ValsAt w w.heap.size A l) (hl : l.length ≤ 1000) (hi : ∀ v ∈ vls l, in64 v) :
    Calls Tryd.prog 10 #[.slice A l.length c] w fun e w' => e = .returned (ofV (vls l)) ∧ Below w.heap.size w w' := by
  have HT := Lib.hid ht; clear ht
  have HA := Lib.hid hA; clear hA
  have HI := Lib.hid hi; clear hi
  go_enter Tryd.func10, Tryd.ntmps10
  go_wp2_with fail
  go_loopw [4, 9] (fun v i wr => ∃ k : Nat, k ≤ l.length ∧ i = .int .i64 k ∧ Hid (OwnB wr w.heap.size v (ofK ((vls l).take k))) ∧ Hid (∀ j v, (vls l)[j]? = some v → j < k → rightL v = true) ∧ Below w.heap.size w wr) (fun _ i _ => l.length - (intOf i).toNat)
  case atStart => exact ⟨0, by omega, rfl, OwnB.nil _ _, fun j v _ h => absurd h (by omega), Below.refl _ _⟩
  case round =>
    obtain ⟨k, hk, rfl, ho, hall, hb⟩ := hrel
    have hsz2 := hb.size
    by_cases hlt : k < l.length
    · obtain ⟨b, off, rfl, hbB, c0, c1, c2⟩ := (HA.out.below hb).get k hlt
      have Hv := Lib.hid (vls_at l k hlt)
      have Hin := Lib.hid (HI.out _ (List.mem_of_getElem? Hv.out))
      generalize l[k] = x at c0 c1 c2 Hv Hin
      obtain ⟨xk, xn, xs⟩ := x
      simp only at c0 c1 c2
      have HR := Lib.hid (fun w ht => vright_any xk xn xs w ht)
      have HB := Lib.hid (Blk3.new wr (.int .i64 xk) (.int .i64 xn) (.string xs) 30)
      have HT1 : Hid (UTab (wr.alloc (.cells #[.int .i64 xk, .int .i64 xn, .string xs] 30))) := (HT.out.below hb (Nat.le_refl _)).alloc _
      cases hr : rightV xk xn (bs xs)
      · rw [hr] at HR
        have Hno : Hid (ofV (vls l) = .tuple #[.string ⟨#[]⟩, .int .i64 2]) := by
          show _ = _
          unfold ofV
          rw [allR_not Hv.out (by exact hr)]; rfl
        clear hr
        go_wp2_with fail
        refine (HR.out _ HT1.out).mono ?_
        rintro e w1 ⟨rfl, hb1⟩
        have hb1' := hb.trans ((below_new hb1).mono hsz2)
        go_wp2_with fail
        go_ret2
        exact ⟨by rw [Hno.out]; rfl, hb1'⟩
      · rw [hr] at HR
        have Hr := Lib.hid hr; clear hr
        have Hlen : Hid ((ofK ((vls l).take k)).length ≤ 900000) := by
          show _ ≤ _
          have h1 := ofK_len (l := (vls l).take k) (allR_of fun j v hj => by
            rw [List.getElem?_take] at hj
            split at hj
            · exact hall.out j v hj (by assumption)
            · cases hj)
          have h2 := List.length_take_le k (vls l)
          omega
        have He : Hid (ofK ((vls l).take (k + 1)) = ofK ((vls l).take k) ++ key xk xn (bs xs)) := ofK_take Hv.out
        have Hall : Hid (∀ j v, (vls l)[j]? = some v → j < k + 1 → rightL v = true) := fun j v hj hk => by
          by_cases e : j = k
          · subst e
            rw [Hv.out] at hj
            cases hj
            exact Hr.out
          · exact hall.out j v hj (by omega)
        go_wp2_with fail
        refine (HR.out _ HT1.out).mono ?_
        rintro e w1 ⟨rfl, hb1⟩
        have HK := Lib.hid (HB.out.below hb1 (by simp))
        have HO := Lib.hid ((ho.out.alloc (.cells #[.int .i64 xk, .int .i64 xn, .string xs] 30)).below hb1)
        have hs1 : w.heap.size ≤ w1.heap.size := Nat.le_trans hsz2 (below_new hb1).size
        have hb1' := hb.trans ((below_new hb1).mono hsz2)
        clear hb1
        obtain ⟨k0, k1, k2, _, _, _⟩ := HK.out
        go_wp2_with fail
        refine (appKey_any _ _ w.heap.size xk xn xs w1 Hr.out Hin.out.1 Hin.out.2 HO.out hs1 Hlen.out).mono ?_
        rintro e w2 ⟨v2, rfl, ho2, hb2⟩
        have HO2 : Hid (OwnB w2 w.heap.size v2 (ofK ((vls l).take (k + 1)))) := by show OwnB _ _ _ _; rw [He.out]; exact ho2
        clear ho2
        go_wp2_with fail
        go_roundw
        case rel => exact ⟨k + 1, by omega, by go_num, HO2.out, Hall.out, hb1'.trans hb2⟩
        case measure => simp [intOf]; omega
    · have Hyes : Hid (ofV (vls l) = .tuple #[.string ⟨(ofK ((vls l).take k)).toArray⟩, .int .i64 0]) := by
        show _ = _
        unfold ofV
        rw [allR_of fun j v hj => hall.out j v hj (by have := (List.getElem?_eq_some_iff.1 hj).1; rw [vls_length] at this; omega), List.take_of_length_le (by rw [vls_length]; omega)]
        rfl
      have hcv := run_string_own ho.out
      go_wp2_with fail
      go_ret2
      exact ⟨by rw [Hyes.out]; rfl, hb⟩
end Go.Proofs.YtbbdmphclnnejaaDoor
