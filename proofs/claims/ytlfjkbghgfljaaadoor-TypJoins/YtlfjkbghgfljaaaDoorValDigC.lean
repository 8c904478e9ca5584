/-
  Contracts of package value's Digits and of the document's own.
-/
import Derived.Test.YtlfjkbghgfljaaaDoorValC
import Derived.Test.YtlfjkbghgfljaaaDoorHasB
namespace Go.Proofs.YtlfjkbghgfljaaaDoor
open Go.RowKit

/-- the digits of m are written from behind as far as place st; q is left -/
def Dig (m q st : Nat) (l : List UInt8) : Prop := l.length = 20 ∧ ((st = 20 ∧ q = m) ∨ (st < 20 ∧ ((q = 0 ∧ dn m = l.drop st) ∨ (q ≠ 0 ∧ dn m = dn q ++ l.drop st))))
theorem Dig.start (m : Nat) : Dig m m 20 (List.replicate 20 0) := ⟨rfl, .inl ⟨rfl, rfl⟩⟩
theorem set_drop (l : List UInt8) (k : Nat) (c : UInt8) (h : k < l.length) : (l.set k c).drop k = c :: l.drop (k + 1) := by
  rw [List.drop_eq_getElem_cons (by simpa using h), List.getElem_set_self, List.drop_set_of_lt (by omega)]
theorem Dig.more {m q st : Nat} {l : List UInt8} (h : Dig m q st l) (hm : m < 10000000000000000000) (hq : q ≠ 0 ∨ st = 20) : ∃ t, st = t + 1 ∧ 1 ≤ t ∧ t < 20 ∧ Dig m (q / 10) t (l.set t (dg (q % 10))) := by
  obtain ⟨hl, h⟩ := h
  have hlen := dn_len m 19 (by simpa using hm) (by omega)
  have key : ∀ t, t < 20 → ∀ (r : List UInt8), l.drop (t + 1) = r → dn m = dn q ++ r → Dig m (q / 10) t (l.set t (dg (q % 10))) := by
    intro t ht r hr he
    refine ⟨by simpa using hl, .inr ⟨ht, ?_⟩⟩
    rw [set_drop _ _ _ (by omega), hr]
    by_cases h10 : q < 10
    · exact .inl ⟨by omega, by rw [he, dn_lt h10, Nat.mod_eq_of_lt h10]; rfl⟩
    · exact .inr ⟨by omega, by rw [he, dn_ge (by omega)]; simp⟩
  rcases h with ⟨rfl, rfl⟩ | ⟨h1, ⟨rfl, h3⟩ | ⟨h2, h3⟩⟩
  · exact ⟨19, rfl, by omega, by omega, key 19 (by omega) [] (by rw [List.drop_eq_nil_of_le (by omega)]) (by simp)⟩
  · rcases hq with hq | hq
    · exact absurd rfl hq
    · omega
  · have h4 := congrArg List.length h3
    have h5 := List.length_pos_iff.2 (dn_ne q)
    rw [List.length_append, List.length_drop, hl] at h4
    exact ⟨st - 1, by omega, by omega, by omega, key (st - 1) (by omega) (l.drop st) (by rw [show st - 1 + 1 = st by omega]) h3⟩
theorem Dig.stop {m st : Nat} {l : List UInt8} (h : Dig m 0 st l) (hm : m < 10000000000000000000) (hs : st ≠ 20) : l.length = 20 ∧ ∃ t, st = t + 1 ∧ t < 19 ∧ l.drop (t + 1) = dn m := by
  obtain ⟨hl, h⟩ := h
  have hlen := dn_len m 19 (by simpa using hm) (by omega)
  rcases h with ⟨rfl, _⟩ | ⟨h1, ⟨_, h3⟩ | ⟨h2, h3⟩⟩
  · exact absurd rfl hs
  · have h4 := congrArg List.length h3
    rw [List.length_drop, hl] at h4
    exact ⟨hl, st - 1, by omega, by omega, by rw [h3, show st - 1 + 1 = st by omega]⟩
  · exact absurd rfl h2
theorem HasB.zeros (w : World) (t : TypeId) : HasB (w.alloc (.cells #[.int .u8 0, .int .u8 0, .int .u8 0, .int .u8 0, .int .u8 0, .int .u8 0, .int .u8 0, .int .u8 0, .int .u8 0, .int .u8 0, .int .u8 0, .int .u8 0, .int .u8 0, .int .u8 0, .int .u8 0, .int .u8 0, .int .u8 0, .int .u8 0, .int .u8 0, .int .u8 0] t)) w.heap.size (List.replicate 20 0) := by
  refine ⟨fun j hj => ?_, fun j hj => ?_⟩
  · have e : (#[Value.int .u8 0, .int .u8 0, .int .u8 0, .int .u8 0, .int .u8 0, .int .u8 0, .int .u8 0, .int .u8 0, .int .u8 0, .int .u8 0, .int .u8 0, .int .u8 0, .int .u8 0, .int .u8 0, .int .u8 0, .int .u8 0, .int .u8 0, .int .u8 0, .int .u8 0, .int .u8 0] : Array Value) = Array.replicate 20 (.int .u8 0) := rfl
    have hj' : j < 20 := by simpa using hj
    rw [e, List.getElem_replicate]
    simp [hj']
  · simp
/-- the end of a row of bytes, made into a string -/
theorem run_string_end {w : World} {g st n cap : Nat} {l r : List UInt8} (h : HasB w g l) (hr : l.drop st = r) (hn : n = r.length) :
    (convert 79 9 (.slice (some ⟨g, st, none⟩) n cap)).run Tryd.prog w = .ok (.string ⟨r.toArray⟩) w := by
  subst hn
  refine run_convert_bytes_back w 79 9 5 ⟨g, st, none⟩ cap r Tryd.underlying79 Tryd.underlying5 Tryd.underlying9 fun j hj => ?_
  subst hr
  rw [List.length_drop] at hj
  rw [Addr.add_lit, h.1 (st + j) (by omega), List.getElem_drop]

theorem run_slice_arr (w : World) (b t : Nat) (ht : t < 20) : (Instr.sliceAt 77 (.pointer (some ⟨b, 0, none⟩)) (some (.int .i64 (t : Nat))) none none).run Tryd.prog w = .ok (.slice (some ⟨b, t, none⟩) (20 - t) (20 - t)) w := by
  have h := run_sliceAt_array_l (P := Tryd.prog) w 77 ⟨b, 0, none⟩ (by kernel_rfl) .i64 (t : Nat) (by omega) (by show (t : Int) ≤ ((20 : Nat) : Int); omega)
  have e1 : Tryd.prog.arrayLen 77 = 20 := by kernel_rfl
  have hne : 20 ≠ t := by omega
  rw [h, e1]
  simp [go_sem, hne]
set_option maxRecDepth 100000 in
set_option maxHeartbeats 800000 in
theorem digits_any (n : Int) (w : World) (h1 : -9223372036854775808 ≤ n) (h2 : n < 9223372036854775808) : Calls Tryd.prog 41 #[.int .i64 n] w fun e w' => e = .returned (.string ⟨(dz n).toArray⟩) ∧ Below w.heap.size w w' := by
  have Hd : Hid (dz n = if n < 0 then 45 :: dn n.natAbs else dn n.natAbs) := rfl
  have hm : n.natAbs < 10000000000000000000 := by omega
  by_cases h : n < 0
  · have d : decide (n < 0) = true := by simpa using h
    rw [if_pos h] at Hd
    have He : Hid (IntKind.u64.wrap (-IntKind.u64.wrap n) = (n.natAbs : Int)) := by show _ = _; go_arith
    have Hm := Lib.hid hm; clear hm h
    generalize n.natAbs = m at He Hm Hd
    go_enter Tryd.func41, Tryd.ntmps41
    go_wp2_with fail
    simp only [He.out]
    go_loopw [4, 5] (fun r i wr => ∃ (q st : Nat) (l : List UInt8), r = .int .u64 q ∧ i = .int .i64 st ∧ st ≤ 20 ∧ q < 10000000000000000000 ∧ Hid (Dig m q st l) ∧ Hid (HasB wr w.heap.size l) ∧ Below w.heap.size w wr) (fun _ i _ => (intOf i).toNat)
    case atStart => exact ⟨m, 20, _, rfl, rfl, by omega, Hm.out, Dig.start m, HasB.zeros w _, by go_grown⟩
    case round =>
      obtain ⟨q, st, l, rfl, rfl, hst, hq, hd, hh, hb⟩ := hrel
      by_cases hgo : q ≠ 0 ∨ st = 20
      · obtain ⟨t, rfl, ht1, ht, hdn⟩ := hd.out.more Hm.out hgo
        have Hn := Lib.hid hdn; clear hdn
        have hl : t < l.length := by rw [hd.out.1]; exact ht
        obtain ⟨v, c1⟩ : ∃ v, wr.cell? ⟨w.heap.size, t, none⟩ = some v := ⟨_, hh.out.1 t hl⟩
        have f1 := hh.out.2 t hl
        have Hset := Lib.hid (hh.out.set t hl (dg (q % 10)) (48 + (q : Int) % 10) (by rw [dg_nat _ (by omega)]; omega))
        have d1 : ((q : Int) != 0) = true ∨ (((q : Int) != 0) = false ∧ t = 19) := by
          rcases hgo with h | h
          · exact .inl (by simp; omega)
          · by_cases hq0 : q = 0
            · exact .inr ⟨by simp; omega, by omega⟩
            · exact .inl (by simp; omega)
        clear hgo hl
        rcases d1 with d1 | ⟨d1, rfl⟩
        all_goals
          go_wp2_with fail
          go_roundw
          case rel => exact ⟨q / 10, _, _, by go_num, by go_num, by omega, by omega, Hn.out, Hset.out, hb.setCell (by simp) _⟩
          case measure => simp [intOf]
      · obtain rfl : q = 0 := Classical.byContradiction fun h => hgo (.inl h)
        obtain ⟨hl, t, rfl, ht, hdr⟩ := hd.out.stop Hm.out (fun h => hgo (.inr h))
        have Hset := Lib.hid (hh.out.set t (by omega) 45 45 rfl)
        have hl1 : t < l.length := by omega
        obtain ⟨v, c1⟩ : ∃ v, wr.cell? ⟨w.heap.size, t, none⟩ = some v := ⟨_, hh.out.1 t hl1⟩
        have f1 := hh.out.2 t hl1
        have d2 : ((t : Int) + 1 == 20) = false := by simp; omega
        have hsl := fun w' => run_slice_arr w' w.heap.size t (by omega)
        have hcv := run_string_end (cap := 20 - t) (st := t) (n := 20 - t) Hset.out (set_drop _ _ _ hl1) (by rw [List.length_cons, List.length_drop]; omega)
        rw [hdr] at hcv
        clear hgo hl hl1 hdr
        go_wp2_with fail
        go_ret
        exact ⟨by rw [Hd.out]; rfl, hb.setCell (by simp) _⟩
  · have d : decide (n < 0) = false := by simpa using h
    rw [if_neg h] at Hd
    have He : Hid (IntKind.u64.wrap n = (n.natAbs : Int)) := by show _ = _; go_arith
    have Hm := Lib.hid hm; clear hm h
    generalize n.natAbs = m at He Hm Hd
    go_enter Tryd.func41, Tryd.ntmps41
    go_wp2_with fail
    simp only [He.out]
    go_loopw [4, 5] (fun r i wr => ∃ (q st : Nat) (l : List UInt8), r = .int .u64 q ∧ i = .int .i64 st ∧ st ≤ 20 ∧ q < 10000000000000000000 ∧ Hid (Dig m q st l) ∧ Hid (HasB wr w.heap.size l) ∧ Below w.heap.size w wr) (fun _ i _ => (intOf i).toNat)
    case atStart => exact ⟨m, 20, _, rfl, rfl, by omega, Hm.out, Dig.start m, HasB.zeros w _, by go_grown⟩
    case round =>
      obtain ⟨q, st, l, rfl, rfl, hst, hq, hd, hh, hb⟩ := hrel
      by_cases hgo : q ≠ 0 ∨ st = 20
      · obtain ⟨t, rfl, ht1, ht, hdn⟩ := hd.out.more Hm.out hgo
        have Hn := Lib.hid hdn; clear hdn
        have hl : t < l.length := by rw [hd.out.1]; exact ht
        obtain ⟨v, c1⟩ : ∃ v, wr.cell? ⟨w.heap.size, t, none⟩ = some v := ⟨_, hh.out.1 t hl⟩
        have f1 := hh.out.2 t hl
        have Hset := Lib.hid (hh.out.set t hl (dg (q % 10)) (48 + (q : Int) % 10) (by rw [dg_nat _ (by omega)]; omega))
        have d1 : ((q : Int) != 0) = true ∨ (((q : Int) != 0) = false ∧ t = 19) := by
          rcases hgo with h | h
          · exact .inl (by simp; omega)
          · by_cases hq0 : q = 0
            · exact .inr ⟨by simp; omega, by omega⟩
            · exact .inl (by simp; omega)
        clear hgo hl
        rcases d1 with d1 | ⟨d1, rfl⟩
        all_goals
          go_wp2_with fail
          go_roundw
          case rel => exact ⟨q / 10, _, _, by go_num, by go_num, by omega, by omega, Hn.out, Hset.out, hb.setCell (by simp) _⟩
          case measure => simp [intOf]
      · obtain rfl : q = 0 := Classical.byContradiction fun h => hgo (.inl h)
        obtain ⟨hl, t, ht0, ht, hdr⟩ := hd.out.stop Hm.out (fun h => hgo (.inr h))
        rw [← ht0] at hdr
        have hst2 : st < 20 := by omega
        have d2 : ((st : Int) == 20) = false := by simp; omega
        have hsl := fun w' => run_slice_arr w' w.heap.size st hst2
        have hcv := run_string_end (cap := 20 - st) (st := st) (n := 20 - st) hh.out hdr (by rw [← hdr, List.length_drop]; omega)
        clear hgo hl hdr ht0 ht
        go_wp2_with fail
        go_ret
        exact ⟨by rw [Hd.out]; rfl, hb⟩
end Go.Proofs.YtlfjkbghgfljaaaDoor
