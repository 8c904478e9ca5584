/-
  Texts that the proof needs, one behind the other: ValDigC, ValReadMath, ValNumberC, ValHexC.
-/
import Derived.Lib.SlBytesConst
import Derived.Test.YtebldfnocpcddaaGreatDoorPart5
import Derived.Test.YtebldfnocpcddaaGreatDoorPart9
import Derived.Test.YtebldfnocpcddaaGreatDoorPart4

/-
  Contracts of package value's Digits and of the document's own.
-/
namespace Go.Proofs.YtebldfnocpcddaaGreatDoor
open Go.RowKit

/-- the digits of m are written from behind as far as place st; q is left -/
def Dig (m q st : Nat) (l : List UInt8) : Prop := l.length = 20 ∧ ((st = 20 ∧ q = m) ∨ (st < 20 ∧ ((q = 0 ∧ dn m = l.drop st) ∨ (q ≠ 0 ∧ dn m = dn q ++ l.drop st))))
theorem Dig.start (m : Nat) : Dig m m 20 (List.replicate 20 0) := ⟨rfl, .inl ⟨rfl, rfl⟩⟩
theorem set_drop (l : List UInt8) (k : Nat) (c : UInt8) (h : k < l.length) : (l.set k c).drop k = c :: l.drop (k + 1) := by
  rw [List.drop_eq_getElem_cons (by simpa using h), List.getElem_set_self, List.drop_set_of_lt (by omega)]
theorem Dig.more {m q st : Nat} {l : List UInt8} (h : Dig m q st l) (hm : m < 10000000000000000000) (hq : q ≠ 0 ∨ st = 20) : ∃ t, st = t + 1 ∧ 1 ≤ t ∧ t < 20 ∧ Dig m (q / 10) t (l.set t (dg (q % 10))) := by
  obtain ⟨hl, h⟩ := h
  have hlen := dn_len m 19 (by simpa using hm) (by omega)
  have key : ∀ t, t < 20 → ∀ (r : List UInt8), l.drop (t + 1) = r → dn m = dn q ++ r → Dig m (q / 10) t (l.set t (dg (q % 10))) := by
    intro t ht r hr he
    refine ⟨by simpa using hl, .inr ⟨ht, ?_⟩⟩
    rw [set_drop _ _ _ (by omega), hr]
    by_cases h10 : q < 10
    · exact .inl ⟨by omega, by rw [he, dn_lt h10, Nat.mod_eq_of_lt h10]; rfl⟩
    · exact .inr ⟨by omega, by rw [he, dn_ge (by omega)]; simp⟩
  rcases h with ⟨rfl, rfl⟩ | ⟨h1, ⟨rfl, h3⟩ | ⟨h2, h3⟩⟩
  · exact ⟨19, rfl, by omega, by omega, key 19 (by omega) [] (by rw [List.drop_eq_nil_of_le (by omega)]) (by simp)⟩
  · rcases hq with hq | hq
    · exact absurd rfl hq
    · omega
  · have h4 := congrArg List.length h3
    have h5 := List.length_pos_iff.2 (dn_ne q)
    rw [List.length_append, List.length_drop, hl] at h4
    exact ⟨st - 1, by omega, by omega, by omega, key (st - 1) (by omega) (l.drop st) (by rw [show st - 1 + 1 = st by omega]) h3⟩
theorem Dig.stop {m st : Nat} {l : List UInt8} (h : Dig m 0 st l) (hm : m < 10000000000000000000) (hs : st ≠ 20) : l.length = 20 ∧ ∃ t, st = t + 1 ∧ t < 19 ∧ l.drop (t + 1) = dn m := by
  obtain ⟨hl, h⟩ := h
  have hlen := dn_len m 19 (by simpa using hm) (by omega)
  rcases h with ⟨rfl, _⟩ | ⟨h1, ⟨_, h3⟩ | ⟨h2, h3⟩⟩
  · exact absurd rfl hs
  · have h4 := congrArg List.length h3
    rw [List.length_drop, hl] at h4
    exact ⟨hl, st - 1, by omega, by omega, by rw [h3, show st - 1 + 1 = st by omega]⟩
  · exact absurd rfl h2
theorem HasB.zeros (w : World) (t : TypeId) : HasB (w.alloc (.cells #[.int .u8 0, .int .u8 0, .int .u8 0, .int .u8 0, .int .u8 0, .int .u8 0, .int .u8 0, .int .u8 0, .int .u8 0, .int .u8 0, .int .u8 0, .int .u8 0, .int .u8 0, .int .u8 0, .int .u8 0, .int .u8 0, .int .u8 0, .int .u8 0, .int .u8 0, .int .u8 0] t)) w.heap.size (List.replicate 20 0) := by
  refine ⟨fun j hj => ?_, fun j hj => ?_⟩
  · have e : (#[Value.int .u8 0, .int .u8 0, .int .u8 0, .int .u8 0, .int .u8 0, .int .u8 0, .int .u8 0, .int .u8 0, .int .u8 0, .int .u8 0, .int .u8 0, .int .u8 0, .int .u8 0, .int .u8 0, .int .u8 0, .int .u8 0, .int .u8 0, .int .u8 0, .int .u8 0, .int .u8 0] : Array Value) = Array.replicate 20 (.int .u8 0) := rfl
    have hj' : j < 20 := by simpa using hj
    rw [e, List.getElem_replicate]
    simp [hj']
  · simp
/-- the end of a row of bytes, made into a string -/
theorem run_string_end {w : World} {g st n cap : Nat} {l r : List UInt8} (h : HasB w g l) (hr : l.drop st = r) (hn : n = r.length) :
    (convert 47 9 (.slice (some ⟨g, st, none⟩) n cap)).run Tryz.prog w = .ok (.string ⟨r.toArray⟩) w := by
  subst hn
  refine run_convert_bytes_back w 47 9 5 ⟨g, st, none⟩ cap r Tryz.underlying47 Tryz.underlying5 Tryz.underlying9 fun j hj => ?_
  subst hr
  rw [List.length_drop] at hj
  rw [Addr.add_lit, h.1 (st + j) (by omega), List.getElem_drop]

set_option maxRecDepth 100000 in
theorem run_slice_arr (w : World) (b t : Nat) (ht : t < 20) : (Instr.sliceAt 132 (.pointer (some ⟨b, 0, none⟩)) (some (.int .i64 (t : Nat))) none none).run Tryz.prog w = .ok (.slice (some ⟨b, t, none⟩) (20 - t) (20 - t)) w := by
  have h := run_sliceAt_array_l (P := Tryz.prog) w 132 ⟨b, 0, none⟩ (by kernel_rfl) .i64 (t : Nat) (by omega) (by show (t : Int) ≤ ((20 : Nat) : Int); omega)
  have e1 : Tryz.prog.arrayLen 132 = 20 := by kernel_rfl
  have hne : 20 ≠ t := by omega
  rw [h, e1]
  simp [go_sem, hne]
set_option maxRecDepth 100000 in
set_option maxHeartbeats 800000 in
theorem digits_any (n : Int) (w : World) (h1 : -9223372036854775808 ≤ n) (h2 : n < 9223372036854775808) : Calls Tryz.prog 93 #[.int .i64 n] w fun e w' => e = .returned (.string ⟨(dz n).toArray⟩) ∧ Below w.heap.size w w' := by
  have Hd : Hid (dz n = if n < 0 then 45 :: dn n.natAbs else dn n.natAbs) := rfl
  have hm : n.natAbs < 10000000000000000000 := by omega
  by_cases h : n < 0
  · have d : decide (n < 0) = true := by simpa using h
    rw [if_pos h] at Hd
    have He : Hid (IntKind.u64.wrap (-IntKind.u64.wrap n) = (n.natAbs : Int)) := by show _ = _; go_arith
    have Hm := Lib.hid hm; clear hm h
    generalize n.natAbs = m at He Hm Hd
    go_enter Tryz.func93, Tryz.ntmps93
    go_wp2_with fail
    simp only [He.out]
    go_loopw [4, 5] (fun r i wr => ∃ (q st : Nat) (l : List UInt8), r = .int .u64 q ∧ i = .int .i64 st ∧ st ≤ 20 ∧ q < 10000000000000000000 ∧ Hid (Dig m q st l) ∧ Hid (HasB wr w.heap.size l) ∧ Below w.heap.size w wr) (fun _ i _ => (intOf i).toNat)
    case atStart => exact ⟨m, 20, _, rfl, rfl, by omega, Hm.out, Dig.start m, HasB.zeros w _, by go_grown⟩
    case round =>
      obtain ⟨q, st, l, rfl, rfl, hst, hq, hd, hh, hb⟩ := hrel
      by_cases hgo : q ≠ 0 ∨ st = 20
      · obtain ⟨t, rfl, ht1, ht, hdn⟩ := hd.out.more Hm.out hgo
        have Hn := Lib.hid hdn; clear hdn
        have hl : t < l.length := by rw [hd.out.1]; exact ht
        obtain ⟨v, c1⟩ : ∃ v, wr.cell? ⟨w.heap.size, t, none⟩ = some v := ⟨_, hh.out.1 t hl⟩
        have f1 := hh.out.2 t hl
        have Hset := Lib.hid (hh.out.set t hl (dg (q % 10)) (48 + (q : Int) % 10) (by rw [dg_nat _ (by omega)]; omega))
        have d1 : ((q : Int) != 0) = true ∨ (((q : Int) != 0) = false ∧ t = 19) := by
          rcases hgo with h | h
          · exact .inl (by simp; omega)
          · by_cases hq0 : q = 0
            · exact .inr ⟨by simp; omega, by omega⟩
            · exact .inl (by simp; omega)
        clear hgo hl
        rcases d1 with d1 | ⟨d1, rfl⟩
        all_goals
          go_wp2_with fail
          go_roundw
          case rel => exact ⟨q / 10, _, _, by go_num, by go_num, by omega, by omega, Hn.out, Hset.out, hb.setCell (by simp) _⟩
          case measure => simp [intOf]
      · obtain rfl : q = 0 := Classical.byContradiction fun h => hgo (.inl h)
        obtain ⟨hl, t, rfl, ht, hdr⟩ := hd.out.stop Hm.out (fun h => hgo (.inr h))
        have Hset := Lib.hid (hh.out.set t (by omega) 45 45 rfl)
        have hl1 : t < l.length := by omega
        obtain ⟨v, c1⟩ : ∃ v, wr.cell? ⟨w.heap.size, t, none⟩ = some v := ⟨_, hh.out.1 t hl1⟩
        have f1 := hh.out.2 t hl1
        have d2 : ((t : Int) + 1 == 20) = false := by simp; omega
        have hsl := fun w' => run_slice_arr w' w.heap.size t (by omega)
        have hcv := run_string_end (cap := 20 - t) (st := t) (n := 20 - t) Hset.out (set_drop _ _ _ hl1) (by rw [List.length_cons, List.length_drop]; omega)
        rw [hdr] at hcv
        clear hgo hl hl1 hdr
        go_wp2_with fail
        go_ret
        exact ⟨by rw [Hd.out]; rfl, hb.setCell (by simp) _⟩
  · have d : decide (n < 0) = false := by simpa using h
    rw [if_neg h] at Hd
    have He : Hid (IntKind.u64.wrap n = (n.natAbs : Int)) := by show _ = _; go_arith
    have Hm := Lib.hid hm; clear hm h
    generalize n.natAbs = m at He Hm Hd
    go_enter Tryz.func93, Tryz.ntmps93
    go_wp2_with fail
    simp only [He.out]
    go_loopw [4, 5] (fun r i wr => ∃ (q st : Nat) (l : List UInt8), r = .int .u64 q ∧ i = .int .i64 st ∧ st ≤ 20 ∧ q < 10000000000000000000 ∧ Hid (Dig m q st l) ∧ Hid (HasB wr w.heap.size l) ∧ Below w.heap.size w wr) (fun _ i _ => (intOf i).toNat)
    case atStart => exact ⟨m, 20, _, rfl, rfl, by omega, Hm.out, Dig.start m, HasB.zeros w _, by go_grown⟩
    case round =>
      obtain ⟨q, st, l, rfl, rfl, hst, hq, hd, hh, hb⟩ := hrel
      by_cases hgo : q ≠ 0 ∨ st = 20
      · obtain ⟨t, rfl, ht1, ht, hdn⟩ := hd.out.more Hm.out hgo
        have Hn := Lib.hid hdn; clear hdn
        have hl : t < l.length := by rw [hd.out.1]; exact ht
        obtain ⟨v, c1⟩ : ∃ v, wr.cell? ⟨w.heap.size, t, none⟩ = some v := ⟨_, hh.out.1 t hl⟩
        have f1 := hh.out.2 t hl
        have Hset := Lib.hid (hh.out.set t hl (dg (q % 10)) (48 + (q : Int) % 10) (by rw [dg_nat _ (by omega)]; omega))
        have d1 : ((q : Int) != 0) = true ∨ (((q : Int) != 0) = false ∧ t = 19) := by
          rcases hgo with h | h
          · exact .inl (by simp; omega)
          · by_cases hq0 : q = 0
            · exact .inr ⟨by simp; omega, by omega⟩
            · exact .inl (by simp; omega)
        clear hgo hl
        rcases d1 with d1 | ⟨d1, rfl⟩
        all_goals
          go_wp2_with fail
          go_roundw
          case rel => exact ⟨q / 10, _, _, by go_num, by go_num, by omega, by omega, Hn.out, Hset.out, hb.setCell (by simp) _⟩
          case measure => simp [intOf]
      · obtain rfl : q = 0 := Classical.byContradiction fun h => hgo (.inl h)
        obtain ⟨hl, t, ht0, ht, hdr⟩ := hd.out.stop Hm.out (fun h => hgo (.inr h))
        rw [← ht0] at hdr
        have hst2 : st < 20 := by omega
        have d2 : ((st : Int) == 20) = false := by simp; omega
        have hsl := fun w' => run_slice_arr w' w.heap.size st hst2
        have hcv := run_string_end (cap := 20 - st) (st := st) (n := 20 - st) hh.out hdr (by rw [← hdr, List.length_drop]; omega)
        clear hgo hl hdr ht0 ht
        go_wp2_with fail
        go_ret
        exact ⟨by rw [Hd.out]; rfl, hb⟩
end Go.Proofs.YtebldfnocpcddaaGreatDoor

/-
  The text of a value, and the value that a string begins with, plainly.
-/
namespace Go.Proofs.YtebldfnocpcddaaGreatDoor
open Go.RowKit

def nullT : List UInt8 := [110, 117, 108, 108]
/-- the text of a value -/
def prW (k n : Int) (l : List UInt8) : List UInt8 := if k = 1 then dz n else if k = 2 then dz n ++ [108] else if k = 3 then qt l else if k = 4 then 120 :: 34 :: (hxs l ++ [34]) else nullT
abbrev Val := Int × Int × List UInt8
/-- a value, its length and the error -/
def resW (v : Val) (n e : Nat) : Val × Nat × Nat := if e = 0 then (v, n, 0) else ((0, 0, []), 0, e)
def numR2 (l : List UInt8) (z : Int) (k e : Nat) : Val × Nat × Nat := if e = 0 then (if l[k]? = some 108 then ((2, z, []), k + 1, 0) else resW (1, z, []) k (inE z)) else ((0, 0, []), 0, e)
def numR (l : List UInt8) : Val × Nat × Nat := numR2 l (numW l).1 (numW l).2.1 (numW l).2.2
noncomputable def txtR (l : List UInt8) : Val × Nat × Nat := if (uq l).2.2 = true then resW (3, 0, (uq l).1) (uq l).2.1 (txE (uq l).1) else ((0, 0, []), 0, 5)
noncomputable def bytR (l : List UInt8) : Val × Nat × Nat := if (uh (l.drop 2)).2.2 = true then resW (4, 0, (uh (l.drop 2)).1) ((uh (l.drop 2)).2.1 + 3) (byE (uh (l.drop 2)).1) else ((0, 0, []), 0, 5)
/-- does the string begin as a number does? -/
def numB (l : List UInt8) : Bool := match l with
  | [] => false
  | c :: _ => decide (c = 45) || isD c
noncomputable def readW (l : List UInt8) : Val × Nat × Nat :=
  if l.take (rdN l) = nullT then ((0, 0, []), 4, 0) else if numB l = true then numR l else if l[0]? = some 34 then txtR l else if l.take 2 = [120, 34] then bytR l else ((0, 0, []), 0, 5)
def parseW2 (l : List UInt8) (v : Val) (k e : Nat) : Val × Nat := if e = 0 then (if k < l.length then ((0, 0, []), 6) else (v, 0)) else ((0, 0, []), e)
noncomputable def parseW (l : List UInt8) : Val × Nat := parseW2 l (readW l).1 (readW l).2.1 (readW l).2.2

theorem rdN_no {l : List UInt8} {c : UInt8} (h : l[0]? = some c) (hc : isL c = false) : l.take (rdN l) ≠ nullT := by
  rw [rdN_cons h, hc]; simp [nullT]
theorem isL_D {c : UInt8} (h : isD c = true) : isL c = false := by
  rw [isD_iff] at h
  unfold isL
  have : decide (97 ≤ c.toNat) = false := by simp; omega
  rw [this]; rfl
theorem x_no {l : List UInt8} (h : l.take 2 = [120, 34]) : l.take (rdN l) ≠ nullT ∧ numB l = false ∧ l[0]? ≠ some 34 := by
  obtain ⟨r, rfl⟩ : ∃ r, l = 120 :: 34 :: r := by
    match l, h with
    | [], h => simp at h
    | [a], h => simp at h
    | a :: b :: r, h => simp at h; exact ⟨r, by rw [h.1, h.2]⟩
  have e : rdN (120 :: 34 :: r) = 1 := by
    show (if isL 120 then runN (120 :: 34 :: r) else 0) = 1
    rw [if_pos (by decide)]
    simp [runN, show isN 120 = true by decide, show isN 34 = false by decide]
  refine ⟨by rw [e]; simp [nullT], rfl, by simp⟩
theorem readW_null {l : List UInt8} (h : l.take (rdN l) = nullT) : readW l = ((0, 0, []), 4, 0) := by unfold readW; rw [if_pos h]
theorem readW_num {l : List UInt8} (h : numB l = true) : readW l = numR l := by
  have hn : l.take (rdN l) ≠ nullT := by
    cases l with
    | nil => simp [numB] at h
    | cons c r =>
      refine rdN_no (c := c) rfl ?_
      simp only [numB, Bool.or_eq_true, decide_eq_true_eq] at h
      rcases h with rfl | h
      · decide
      · exact isL_D h
  unfold readW; rw [if_neg hn, if_pos h]
theorem readW_txt {l : List UInt8} (h : l[0]? = some 34) : readW l = txtR l := by
  have hb : numB l = false := by
    cases l with
    | nil => rfl
    | cons c r => simp at h; subst h; rfl
  unfold readW; rw [if_neg (rdN_no h (by decide)), if_neg (by rw [hb]; simp), if_pos h]
theorem readW_byt {l : List UInt8} (h : l.take 2 = [120, 34]) : readW l = bytR l := by
  obtain ⟨h1, h2, h3⟩ := x_no h
  unfold readW; rw [if_neg h1, if_neg (by rw [h2]; simp), if_neg h3, if_pos h]
theorem readW_bad {l : List UInt8} (h1 : l.take (rdN l) ≠ nullT) (h2 : numB l = false) (h3 : l[0]? ≠ some 34) (h4 : l.take 2 ≠ [120, 34]) : readW l = ((0, 0, []), 0, 5) := by
  unfold readW; rw [if_neg h1, if_neg (by rw [h2]; simp), if_neg h3, if_neg h4]
theorem resW_err {v w : Val} {n k e e' : Nat} (h : resW v n e = (w, k, e')) (he : e' ≠ 0) : w = (0, 0, []) ∧ k = 0 := by
  unfold resW at h
  split at h
  · simp only [Prod.mk.injEq] at h; exact absurd h.2.2.symm he
  · simp only [Prod.mk.injEq] at h; exact ⟨h.1.symm, h.2.1.symm⟩
theorem resW_ok {v w : Val} {n k e : Nat} (h : resW v n e = (w, k, 0)) : w = v ∧ k = n ∧ e = 0 := by
  unfold resW at h
  split at h
  · rename_i he
    simp only [Prod.mk.injEq] at h; exact ⟨h.1.symm, h.2.1.symm, he⟩
  · rename_i he
    simp only [Prod.mk.injEq] at h; exact absurd h.2.2 he
theorem readW_err {l : List UInt8} {v : Val} {k e : Nat} (h : readW l = (v, k, e)) (he : e ≠ 0) : v = (0, 0, []) ∧ k = 0 := by
  unfold readW at h
  split at h
  · simp only [Prod.mk.injEq] at h; exact absurd h.2.2.symm he
  · split at h
    · unfold numR numR2 at h
      split at h
      · split at h
        · simp only [Prod.mk.injEq] at h; exact absurd h.2.2.symm he
        · exact resW_err h he
      · simp only [Prod.mk.injEq] at h; exact ⟨h.1.symm, h.2.1.symm⟩
    · split at h
      · unfold txtR at h
        split at h
        · exact resW_err h he
        · simp only [Prod.mk.injEq] at h; exact ⟨h.1.symm, h.2.1.symm⟩
      · split at h
        · unfold bytR at h
          split at h
          · exact resW_err h he
          · simp only [Prod.mk.injEq] at h; exact ⟨h.1.symm, h.2.1.symm⟩
        · simp only [Prod.mk.injEq] at h; exact ⟨h.1.symm, h.2.1.symm⟩
theorem take_succ_some {l : List UInt8} {k : Nat} {c : UInt8} (h : l[k]? = some c) : l.take (k + 1) = l.take k ++ [c] ∧ k + 1 ≤ l.length := by
  have h1 := (List.getElem?_eq_some_iff.1 h).1
  exact ⟨take_at h, h1⟩
/-- whatever is read is valid, and written just so -/
theorem read_back {l : List UInt8} {k n : Int} {t : List UInt8} {m : Nat} (h : readW l = ((k, n, t), m, 0)) :
    rightV k n t = true ∧ prW k n t = l.take m ∧ m ≤ l.length ∧ -9223372036854775808 ≤ n ∧ n < 9223372036854775808 := by
  unfold readW at h
  split at h
  · rename_i h0
    simp only [Prod.mk.injEq] at h
    obtain ⟨⟨rfl, rfl, rfl⟩, rfl, _⟩ := h
    have hl : rdN l ≤ l.length := rdN_le l
    have h4 : rdN l = 4 := by
      have := congrArg List.length h0
      rw [List.length_take] at this
      simp [nullT] at this; omega
    rw [h4] at h0
    exact ⟨rfl, h0.symm, by omega, by omega, by omega⟩
  · split at h
    · unfold numR numR2 at h
      split at h
      · rename_i he
        obtain ⟨h1, h2, h3, h4⟩ := num_back (l := l) (z := (numW l).1) (k := (numW l).2.1) (by rw [← he])
        split at h
        · rename_i hl
          simp only [Prod.mk.injEq] at h
          obtain ⟨⟨rfl, rfl, rfl⟩, rfl, _⟩ := h
          obtain ⟨h5, h6⟩ := take_succ_some hl
          exact ⟨rfl, by rw [h5, h1]; rfl, h6, h2, h3⟩
        · obtain ⟨e1, rfl, e3⟩ := resW_ok h
          simp only [Prod.mk.injEq] at e1
          obtain ⟨rfl, rfl, rfl⟩ := e1
          refine ⟨?_, by rw [h1]; rfl, h4, h2, h3⟩
          unfold inE at e3
          split at e3
          · rename_i hf
            show (fitsB _ 32 && decide (([] : List UInt8) = [])) = true
            rw [hf]; rfl
          · cases e3
      · rename_i he
        simp only [Prod.mk.injEq] at h
        exact absurd h.2.2 he
    · split at h
      · unfold txtR at h
        split at h
        · rename_i hu
          obtain ⟨h1, h2⟩ := uq_back (l := l) (t := (uq l).1) (n := (uq l).2.1) (by rw [← hu])
          obtain ⟨e1, rfl, e3⟩ := resW_ok h
          simp only [Prod.mk.injEq] at e1
          obtain ⟨rfl, rfl, rfl⟩ := e1
          refine ⟨?_, h2, h1, by omega, by omega⟩
          have h3 := txE_zero (uq l).1
          rw [e3] at h3
          show (decide ((0 : Int) = 0) && decide ((uq l).1.length ≤ 120) && (sg (uq l).1).isSome) = true
          rw [Bool.and_assoc, ← h3]; rfl
        · simp at h
      · split at h
        · rename_i hx
          unfold bytR at h
          split at h
          · rename_i hu
            obtain ⟨e1, rfl, e3⟩ := resW_ok h
            simp only [Prod.mk.injEq] at e1
            obtain ⟨rfl, rfl, rfl⟩ := e1
            rcases uh_cases (l.drop 2) with ⟨t, r, h1, h2⟩ | h2
            · rw [h2] at e3 ⊢
              have hl : l = 120 :: 34 :: (hxs t ++ 34 :: r) := by
                have := (List.take_append_drop 2 l).symm
                rw [hx, h1] at this; exact this
              refine ⟨?_, ?_, ?_, by omega, by omega⟩
              · have h3 := byE_zero t
                rw [e3] at h3
                show (decide ((0 : Int) = 0) && decide (t.length ≤ 120)) = true
                rw [← h3]; rfl
              · show 120 :: 34 :: (hxs t ++ [34]) = _
                rw [hl]
                show _ = (120 :: 34 :: (hxs t ++ 34 :: r)).take ((hxs t).length + 1 + 1 + 1)
                rw [List.take_succ_cons, List.take_succ_cons, show hxs t ++ 34 :: r = (hxs t ++ [34]) ++ r by simp, List.take_append_of_le_length (by simp), List.take_of_length_le (by simp)]
              · rw [hl]; simp
            · rw [h2] at hu; cases hu
          · simp at h
        · simp at h
theorem parse_back {l : List UInt8} {k n : Int} {t : List UInt8} (h : parseW l = ((k, n, t), 0)) : rightV k n t = true ∧ prW k n t = l ∧ -9223372036854775808 ≤ n ∧ n < 9223372036854775808 := by
  unfold parseW parseW2 at h
  split at h
  · rename_i he
    split at h
    · simp at h
    · rename_i hk
      simp only [Prod.mk.injEq] at h
      obtain ⟨h1, h2, h3, h4, h5⟩ := read_back (l := l) (k := k) (n := n) (t := t) (m := (readW l).2.1) (by rw [← h.1, ← he])
      exact ⟨h1, by rw [h2, List.take_of_length_le (by omega)], h4, h5⟩
  · rename_i he
    simp only [Prod.mk.injEq] at h
    exact absurd h.2 he
theorem parse_err {l : List UInt8} {v : Val} {e : Nat} (h : parseW l = (v, e)) (he : e ≠ 0) : v = (0, 0, []) := by
  unfold parseW parseW2 at h
  split at h
  · split at h
    · simp only [Prod.mk.injEq] at h; exact h.1.symm
    · simp only [Prod.mk.injEq] at h; exact absurd h.2.symm he
  · simp only [Prod.mk.injEq] at h; exact h.1.symm
/-- nothing follows, or a blank -/
def Blank (r : List UInt8) : Prop := r = [] ∨ r[0]? = some 32
theorem Blank.ne {r : List UInt8} (h : Blank r) {c : UInt8} (hc : c ≠ 32) : r[0]? ≠ some c := by
  rcases h with rfl | h
  · simp
  · rw [h]; intro e; exact hc (Option.some.inj e).symm
theorem Blank.noD {r : List UInt8} (h : Blank r) : ∀ c, r[0]? = some c → isD c = false := fun c hc => by
  rcases h with rfl | h
  · simp at hc
  · rw [h] at hc; cases hc; decide
theorem runN_stop : ∀ (l : List UInt8) {r : List UInt8}, (∀ x ∈ l, isN x = true) → Blank r → runN (l ++ r) = l.length
  | [], r, _, hr => by
    rcases hr with rfl | hr
    · rfl
    · cases r with
      | nil => rfl
      | cons c r => simp at hr; subst hr; simp [runN, show isN 32 = false by decide]
  | a :: l, r, h, hr => by
    have ha : isN a = true := h a (by simp)
    simp only [List.cons_append, runN, ha, if_true, List.length_cons]
    rw [runN_stop l (fun x hx => h x (by simp [hx])) hr]
/-- what is written is read, with nothing or a blank behind it -/
theorem print_read {k n : Int} {t : List UInt8} (hr : rightV k n t = true) (h1 : -9223372036854775808 ≤ n) (h2 : n < 9223372036854775808) {r : List UInt8} (hb : Blank r) :
    readW (prW k n t ++ r) = ((k, n, t), (prW k n t).length, 0) := by
  have hnum : numB (dz n ++ r) = true := by
    obtain ⟨c, q, hc, hc2⟩ := dn_head n.natAbs
    by_cases hn : n < 0
    · rw [dz_neg hn]; rfl
    · rw [dz_pos (by omega), hc]
      simp [numB, hc2]
  rcases rightV_cases k n t with ⟨rfl, hv⟩ | ⟨rfl, hv⟩ | ⟨rfl, hv⟩ | ⟨rfl, hv⟩ | ⟨rfl, hv⟩ | ⟨_, _, _, _, _, hv⟩
  · rw [hr] at hv
    simp only [Bool.true_eq, Bool.and_eq_true, decide_eq_true_eq] at hv
    obtain ⟨rfl, rfl⟩ := hv
    show readW (nullT ++ r) = _
    have e : rdN (nullT ++ r) = 4 := by
      have h := runN_stop nullT (by decide) hb
      show (if isL 110 then runN (nullT ++ r) else 0) = 4
      rw [if_pos (by decide), h]; rfl
    exact readW_null (by rw [e]; rfl)
  · rw [hr] at hv
    simp only [Bool.true_eq, Bool.and_eq_true, decide_eq_true_eq] at hv
    obtain ⟨hf, rfl⟩ := hv
    show readW (dz n ++ r) = ((1, n, []), (dz n).length, 0)
    rw [readW_num hnum]
    unfold numR
    rw [num_dz h1 h2 hb.noD]
    show numR2 _ n _ 0 = _
    unfold numR2
    rw [if_pos rfl, if_neg (by rw [List.getElem?_append_right (Nat.le_refl _), Nat.sub_self]; exact hb.ne (by decide))]
    unfold resW inE
    rw [hf]; rfl
  · rw [hr] at hv
    simp only [Bool.true_eq, decide_eq_true_eq] at hv
    subst hv
    show readW (dz n ++ [108] ++ r) = ((2, n, []), (dz n ++ [108]).length, 0)
    have hnum2 : numB (dz n ++ ([108] ++ r)) = true := by
      obtain ⟨c, q, hc, hc2⟩ := dn_head n.natAbs
      by_cases hn : n < 0
      · rw [dz_neg hn]; rfl
      · rw [dz_pos (by omega), hc]
        simp [numB, hc2]
    rw [List.append_assoc, readW_num hnum2]
    unfold numR
    rw [num_dz h1 h2 (fun c hc => by simp at hc; subst hc; decide)]
    show numR2 _ n _ 0 = _
    unfold numR2
    rw [if_pos rfl, if_pos (by rw [List.getElem?_append_right (Nat.le_refl _), Nat.sub_self]; rfl)]
    simp
  · rw [hr, Bool.and_assoc] at hv
    have hv2 := Bool.and_eq_true_iff.1 hv.symm
    obtain ⟨hn, ht⟩ := hv2
    have hn0 : n = 0 := of_decide_eq_true hn
    subst hn0
    show readW (qt t ++ r) = ((3, 0, t), (qt t).length, 0)
    rw [readW_txt rfl]
    unfold txtR
    rw [uq_yes (t := t) (r := r) rfl]
    rw [← txE_zero] at ht
    have ht0 : txE t = 0 := by simpa using ht
    show (if true = true then resW (3, 0, t) (qt t).length (txE t) else _) = _
    rw [if_pos rfl, ht0]; rfl
  · rw [hr] at hv
    have hv2 := Bool.and_eq_true_iff.1 hv.symm
    obtain ⟨hn, ht⟩ := hv2
    have hn0 : n = 0 := of_decide_eq_true hn
    subst hn0
    show readW (120 :: 34 :: (hxs t ++ [34]) ++ r) = ((4, 0, t), (120 :: 34 :: (hxs t ++ [34])).length, 0)
    rw [readW_byt rfl]
    unfold bytR
    have e : (120 :: 34 :: (hxs t ++ [34]) ++ r).drop 2 = hxs t ++ 34 :: r := by simp
    rw [e, uh_yes (t := t) (r := r) rfl]
    rw [← byE_zero] at ht
    have ht0 : byE t = 0 := by simpa using ht
    show (if true = true then resW (4, 0, t) ((hxs t).length + 3) (byE t) else _) = _
    rw [if_pos rfl, ht0]
    unfold resW
    rw [if_pos rfl]; simp
  · rw [hr] at hv; cases hv
theorem print_parse {k n : Int} {t : List UInt8} (hr : rightV k n t = true) (h1 : -9223372036854775808 ≤ n) (h2 : n < 9223372036854775808) : parseW (prW k n t) = ((k, n, t), 0) := by
  have h := print_read hr h1 h2 (r := []) (.inl rfl)
  rw [List.append_nil] at h
  unfold parseW
  rw [h]
  show parseW2 (prW k n t) (k, n, t) (prW k n t).length 0 = _
  unfold parseW2
  rw [if_pos rfl, if_neg (by omega)]
end Go.Proofs.YtebldfnocpcddaaGreatDoor

/-
  Contract of package value's Number.
-/
namespace Go.Proofs.YtebldfnocpcddaaGreatDoor
open Go.RowKit

def numV (l : List UInt8) : Value := .tuple #[.int .i64 (numW l).1, .int .i64 ((numW l).2.1 : Nat), .int .i64 ((numW l).2.2 : Nat)]
theorem numV_eq {l : List UInt8} {st : Nat} {ds : List UInt8} {z : Int} {k e : Nat} (h1 : sgAt l = st) (h2 : ldD (l.drop st) = ds) (h : num2 st ds = (z, k, e)) : numV l = .tuple #[.int .i64 z, .int .i64 (k : Nat), .int .i64 (e : Nat)] := by
  unfold numV numW
  rw [h1, h2, h]
theorem num2_nil (st : Nat) : num2 st [] = (0, 0, 5) := rfl
theorem num2_zero {st : Nat} {ds : List UInt8} (h0 : ds[0]? = some 48) (h : st = 1 ∨ 1 < ds.length) : num2 st ds = (0, 0, 5) := by
  unfold num2
  rw [if_neg (by intro e; subst e; simp at h0), if_pos ⟨h0, h⟩]
theorem num2_yes {st : Nat} {ds : List UInt8} (hn : ds ≠ []) (h0 : ¬ (ds[0]? = some 48 ∧ (st = 1 ∨ 1 < ds.length))) (hf : fits64 (numZ st ds) = true) : num2 st ds = (numZ st ds, st + ds.length, 0) := by
  unfold num2
  rw [if_neg hn, if_neg h0, if_pos ((fits64_iff _).1 hf)]
theorem num2_no {st : Nat} {ds : List UInt8} (hn : ds ≠ []) (h0 : ¬ (ds[0]? = some 48 ∧ (st = 1 ∨ 1 < ds.length))) (hf : fits64 (numZ st ds) = false) : num2 st ds = (0, 0, 10) := by
  unfold num2
  rw [if_neg hn, if_neg h0, if_neg (by rw [← fits64_iff, hf]; simp)]
theorem sgAt_no {l : List UInt8} (h : l[0]? ≠ some 45) : sgAt l = 0 := if_neg h
theorem sgAt_yes {l : List UInt8} (h : l[0]? = some 45) : sgAt l = 1 := if_pos h
theorem u8_is {c : UInt8} {d : Nat} (hd : d < 256) (h : c.toNat = d) : c = UInt8.ofNat d := UInt8.toNat_inj.1 (by rw [h, UInt8.toNat_ofNat']; exact (Nat.mod_eq_of_lt hd).symm)

theorem st_cast (neg : Bool) (n : Nat) : ((stN neg + n : Nat) : Int) = bif neg then 1 + (n : Int) else (n : Int) := by
  cases neg
  · show ((0 + n : Nat) : Int) = n; omega
  · show ((1 + n : Nat) : Int) = 1 + n; omega

set_option maxRecDepth 100000 in
set_option maxHeartbeats 1600000 in
theorem number_any (s : ByteArray) (w : World) (hs : s.size ≤ 1000000) : Calls Tryz.prog 127 #[.string s] w fun e w' => e = .returned (numV (bs s)) ∧ w = w' := by
  by_cases h0 : s.size = 0
  · obtain rfl := is_empty s h0
    have H1 := Lib.hid (fun w => leading_any ⟨#[]⟩ w (by decide))
    have Hv : Hid (numV (bs ⟨#[]⟩) = .tuple #[.int .i64 0, .int .i64 0, .int .i64 5]) := rfl
    go_enter Tryz.func127, Tryz.ntmps127
    go_wp2_with fail
    refine (H1.out _).mono ?_
    rintro e w1 ⟨rfl, rfl⟩
    rw [show (⟨(ldD (bs ⟨#[]⟩)).toArray⟩ : ByteArray) = ⟨#[]⟩ from rfl]
    go_wp2_with fail
    go_ret3
    exact ⟨by rw [Hv.out]; rfl, rfl⟩
  have hne := ne_empty s (by omega)
  have h0' : 0 < s.size := by omega
  have A0 := Lib.hid (bs_at s 0 h0')
  -- the sign
  obtain ⟨neg, hneg, Hst, hx⟩ : ∃ neg, ((s[0].toNat : Int) == 45) = neg ∧ Hid (sgAt (bs s) = stN neg) ∧ True := by
    by_cases h : s[0].toNat = 45
    · exact ⟨true, by simp; omega, sgAt_yes (by rw [A0.out, u8_is (by omega) h]; rfl), trivial⟩
    · refine ⟨false, by simp; omega, sgAt_no ?_, trivial⟩
      rw [A0.out]
      intro e
      exact h (by rw [Option.some.inj e]; rfl)
  obtain ⟨D, hD⟩ : ∃ D : ByteArray, D = ⟨(ldD ((bs s).drop (stN neg))).toArray⟩ := ⟨_, rfl⟩
  have HD : Hid (bs D = ldD ((bs s).drop (stN neg))) := by show _ = _; rw [hD]; rfl
  have H1 : Hid (∀ w, Calls Tryz.prog 145 #[.string (bif neg then s.extract 1 s.size else s)] w fun e w' => e = .returned (.string D) ∧ w = w') := fun w => by
    subst hD
    cases neg
    · exact leading_any s w hs
    · have := leading_any (s.extract 1 s.size) w (by simp; omega)
      rw [bs_rest] at this
      exact this
  have hDl : D.size ≤ s.size - stN neg := by
    have h1 := ldD_len ((bs s).drop (stN neg))
    rw [← HD.out, List.length_drop, bs_length, bs_length] at h1; exact h1
  clear hD hx
  have Hall : Hid (AllD (bs D)) := by show AllD _; rw [HD.out]; exact ldD_all _
  have Hv : Hid (∀ z k e, num2 (stN neg) (bs D) = (z, k, e) → numV (bs s) = .tuple #[.int .i64 z, .int .i64 (k : Nat), .int .i64 (e : Nat)]) := fun z k e h => numV_eq Hst.out HD.out.symm h
  clear HD Hst
  by_cases hd0 : D.size = 0
  · obtain rfl := is_empty D hd0
    have Hr := Lib.hid (Hv.out _ _ _ (num2_nil _))
    clear Hv
    cases neg
    all_goals
      go_enter Tryz.func127, Tryz.ntmps127
      go_wp2_with fail
      refine (H1.out _).mono ?_
      rintro e w1 ⟨rfl, rfl⟩
      go_wp2_with fail
      go_ret3
      exact ⟨by rw [Hr.out]; rfl, rfl⟩
  have hDne := ne_empty D (by omega)
  have hd0' : 0 < D.size := by omega
  have B0 := Lib.hid (bs_at D 0 hd0')
  have Hn0 : Hid (bs D ≠ []) := fun e => by have := bs_length D; rw [e] at this; simp at this; omega
  by_cases hz : D[0].toNat = 48 ∧ (neg = true ∨ 1 < D.size)
  · obtain ⟨hz1, hz2⟩ := hz
    have d1 : ((D[0].toNat : Int) == 48) = true := by simp; omega
    have Hr := Lib.hid (Hv.out _ _ _ (num2_zero (by rw [B0.out, u8_is (by omega) hz1]; rfl) (by
      rcases hz2 with h | h
      · subst h; exact .inl rfl
      · exact .inr (by rw [bs_length]; exact h))))
    clear Hv hz1
    cases neg
    · have d2 : decide (1 < (D.size : Int)) = true := by
        rcases hz2 with h | h
        · cases h
        · simp; omega
      go_enter Tryz.func127, Tryz.ntmps127
      go_wp2_with fail
      refine (H1.out _).mono ?_
      rintro e w1 ⟨rfl, rfl⟩
      go_wp2_with fail
      go_ret3
      exact ⟨by rw [Hr.out]; rfl, rfl⟩
    · go_enter Tryz.func127, Tryz.ntmps127
      go_wp2_with fail
      refine (H1.out _).mono ?_
      rintro e w1 ⟨rfl, rfl⟩
      go_wp2_with fail
      go_ret3
      exact ⟨by rw [Hr.out]; rfl, rfl⟩
  have Hz : Hid (¬ ((bs D)[0]? = some 48 ∧ (stN neg = 1 ∨ 1 < (bs D).length))) := by
    rintro ⟨e1, e2⟩
    rw [B0.out] at e1
    refine hz ⟨by rw [Option.some.inj e1]; rfl, ?_⟩
    rcases e2 with e2 | e2
    · cases neg
      · cases e2
      · exact .inl rfl
    · rw [bs_length] at e2; exact .inr e2
  have HC := Lib.hid (fun w => compose_any D neg w (can_of Hn0.out Hall.out Hz.out) (by omega))
  have dd : ((D[0].toNat : Int) == 48) = false ∨ (((D[0].toNat : Int) == 48) = true ∧ neg = false ∧ decide (1 < (D.size : Int)) = false) := by
    by_cases h1 : D[0].toNat = 48
    · refine .inr ⟨by simp; omega, ?_, ?_⟩
      · cases neg
        · rfl
        · exact absurd ⟨h1, .inl rfl⟩ hz
      · by_cases h2 : 1 < D.size
        · exact absurd ⟨h1, .inr h2⟩ hz
        · simp; omega
    · exact .inl (by simp; omega)
  clear hz
  rcases dd with dd | ⟨dd, rfl, dd2⟩
  · cases neg
    all_goals
      go_enter Tryz.func127, Tryz.ntmps127
      go_wp2_with fail
      refine (H1.out _).mono ?_
      rintro e w1 ⟨rfl, rfl⟩
      go_wp2_with fail
      refine (HC.out _).mono ?_
      rintro e w1 ⟨z, rfl, hzz, rfl⟩
      have Hzz := Lib.hid hzz; clear hzz
      cases hf : fits64 (numZ (stN _) (bs D))
      · have Hr := Lib.hid (Hv.out _ _ _ (num2_no Hn0.out Hz.out hf))
        clear Hv Hzz
        go_wp2_with fail
        go_ret3
        exact ⟨by rw [Hr.out]; rfl, rfl⟩
      · have Hr := Lib.hid (Hv.out _ _ _ (num2_yes Hn0.out Hz.out hf))
        have e1 := Hzz.out hf
        subst e1
        rw [bs_length, st_cast] at Hr
        clear Hv Hzz
        go_wp2_with fail
        go_ret3
        exact ⟨by rw [Hr.out]; rfl, rfl⟩
  · go_enter Tryz.func127, Tryz.ntmps127
    go_wp2_with fail
    refine (H1.out _).mono ?_
    rintro e w1 ⟨rfl, rfl⟩
    go_wp2_with fail
    refine (HC.out _).mono ?_
    rintro e w1 ⟨z, rfl, hzz, rfl⟩
    have Hzz := Lib.hid hzz; clear hzz
    cases hf : fits64 (numZ (stN false) (bs D))
    · have Hr := Lib.hid (Hv.out _ _ _ (num2_no Hn0.out Hz.out hf))
      clear Hv Hzz
      go_wp2_with fail
      go_ret3
      exact ⟨by rw [Hr.out]; rfl, rfl⟩
    · have Hr := Lib.hid (Hv.out _ _ _ (num2_yes Hn0.out Hz.out hf))
      have e1 := Hzz.out hf
      subst e1
      rw [bs_length, st_cast] at Hr
      clear Hv Hzz
      go_wp2_with fail
      go_ret3
      exact ⟨by rw [Hr.out]; rfl, rfl⟩
end Go.Proofs.YtebldfnocpcddaaGreatDoor

/-
  Rows of bytes of the call's own, among them the full row of a constant's bytes, which bears a mark; contracts of package value's printBytes and of the document's own hex.
-/
namespace Go.Proofs.YtebldfnocpcddaaGreatDoor
open Go.RowKit

/-- the slice value v is a row of the call's own, from block base on, and holds the bytes l; a row that is full may bear a mark -/
def OwnM (w : World) (base : Nat) (v : Value) (l : List UInt8) : Prop :=
  OwnB w base v l ∨ ∃ g, v = .slice (some ⟨g, 0, none⟩) l.length l.length ∧ base ≤ g ∧ ∀ j (hj : j < l.length), w.cell? ⟨g, j, none⟩ = some (.int .u8 (l[j].toNat : Int))
theorem B8_at {l : List UInt8} {j : Nat} {u : Value} (h : (B8 l)[j]? = some u) : ∃ hj : j < l.length, u = .int .u8 (l[j].toNat : Int) := by
  unfold B8 at h
  rw [List.getElem?_map] at h
  cases hl : l[j]? with
  | none => rw [hl] at h; cases h
  | some c =>
    rw [hl] at h
    obtain ⟨hj, hc⟩ := List.getElem?_eq_some_iff.1 hl
    subst hc
    cases h
    exact ⟨hj, rfl⟩
theorem run_append_M {w : World} {base : Nat} {v : Value} {l : List UInt8} (h : OwnM w base v l) (b m c : Nat) (ds : List UInt8) (hm : m = ds.length) (h0 : 0 < m) (hnews : ∀ j (hj : j < ds.length), w.cell? ⟨b, j, none⟩ = some (.int .u8 (ds[j].toNat : Int)))
    (hlen : l.length + m ≤ 1099511627776) (hbase : base ≤ w.heap.size) (ty : TypeId) :
    ∃ v' w', (Builtin.append_ #[47, 47] ty #[v, .slice (some ⟨b, 0, none⟩) m c]).run Tryz.prog w = .ok v' w' ∧ OwnB w' base v' (l ++ ds) ∧ Below base w w' := by
  subst hm
  obtain ⟨i0, hi, hz0, hz1, hz2⟩ := info_parts info8
  have hn : ∀ j u, (B8 ds)[j]? = some u → w.cell? ((⟨b, 0, none⟩ : Addr).add j) = some u := fun j u hj => by
    obtain ⟨h1, rfl⟩ := B8_at hj
    rw [Addr.add_lit, Nat.zero_add]
    exact hnews j h1
  rcases h with h | ⟨g, rfl, hg, hcells⟩
  · obtain ⟨v', w', hrun, h1, h2, _⟩ := run_append_own (P := Tryz.prog) w base 47 ty 5 i0 (.int .u8 0) 1 1 Tryz.underlying47 hi hz0 hz1 hz2 rfl (by decide) v l.length (B8 l) h ⟨b, 0, none⟩ ds.length c (B8 ds) (by rw [B8_length, Nat.mul_one]) hn
      (fun u hu => by unfold B8 at hu; obtain ⟨x, _, rfl⟩ := List.mem_map.1 hu; rfl) (by unfold maxLen; omega) (by omega) hbase
    refine ⟨v', w', hrun, ?_, (Below.refl base w).grown h2 hbase (fun k hk => ((World.ownsRow.lt h) k hk).1)⟩
    unfold OwnB
    rw [B8_append, List.length_append]
    exact h1
  · have hr := run_append_grow (P := Tryz.prog) w 47 ty 5 i0 (.int .u8 0) Tryz.underlying47 hi hz0 ⟨g, 0, none⟩ l.length l.length (B8 l) (by rw [B8_length, hz1, Nat.mul_one])
      (fun j u hj => by
        obtain ⟨h1, rfl⟩ := B8_at hj
        rw [Addr.add_lit, Nat.zero_add]
        exact hcells j h1)
      ⟨b, 0, none⟩ ds.length c (B8 ds) (by rw [B8_length, hz1, Nat.mul_one]) hn (by omega) (by omega) (by
        have := nextslicecap_le (need := l.length + ds.length) (old := l.length) (by omega)
        rw [hz2, Nat.mul_one]; omega)
    have hge := grownCap_ge w (l.length + ds.length) l.length 5
    have hcm := grownCap_le_maxLen w (l.length + ds.length) l.length 5 (by unfold maxLen; omega)
    refine ⟨_, _, hr, ⟨by rw [B8_length, List.length_append, Nat.mul_one], .inr ⟨w.heap.size, _, _, by rw [List.length_append], hbase, heap_alloc_new w.drew _, by rw [List.length_append]; exact hge, hcm, ?_, ?_⟩⟩, ?_⟩
    · simp only [Array.size_append, List.size_toArray, size_zeroCells, B8_length, Nat.mul_one]
      show _ + _ * 1 = _
      omega
    · rw [B8_append]
      simp only [Array.toList_append]
      have e : (l ++ ds).length * 1 = (B8 l ++ B8 ds).length := by rw [List.length_append, List.length_append, B8_length, B8_length, Nat.mul_one]
      rw [e]
      exact List.take_left
    · exact ((Below.refl base w).drew).alloc hbase _
/-- bytes appended, as one step of a region that draws -/
theorem step_append_M {w : World} {ops : Array Oper} {o : Oper} {a : Act} {K : Act → World → Prop} {Q : Exit → Act → World → Prop} {E : Prop} (hgd : o.guard = none) (s x : Operand)
    (ho : o.op = .call { callee := .builtin .append, args := #[s, x], argTypes := #[47, 47] })
    (base : Nat) (v : Value) (l ds : List UInt8) (b m : Nat)
    (hown : OwnM w base v l) (hs : a.eval s = v) (hx : a.eval x = .slice (some ⟨b, 0, none⟩) m m) (hm : m = ds.length) (h0 : 0 < m)
    (hnews : ∀ j (hj : j < ds.length), w.cell? ⟨b, j, none⟩ = some (.int .u8 (ds[j].toNat : Int))) (hlen : l.length + m ≤ 1099511627776) (hbase : base ≤ w.heap.size)
    (h : ∀ v' w', OwnB w' base v' (l ++ ds) → Below base w w' → K (a.put o.dst v') w') :
    if Region.wanted o (yielded ops a.tmps) = true then Oper.wp Tryz.prog o a w K Q else E := by
  have hw : Region.wanted o (yielded ops a.tmps) = true := by simp [Region.wanted, hgd]
  rw [if_pos hw]
  obtain ⟨v', w', hrun, h1, h2⟩ := run_append_M hown b m m ds hm h0 hnews hlen hbase o.type
  unfold Oper.wp
  simp [execOp, ho, resolve, invoke, builtin, hs, hx, hrun, Result.andThen]
  exact h v' w' h1 h2
/-- the same, one behind the other -/
theorem wpList_append_M {w : World} {ops : Array Oper} {rest : List Oper} {o : Oper} {a : Act} {Q : Exit → Act → World → Prop} (hgd : o.guard = none) (s x : Operand)
    (ho : o.op = .call { callee := .builtin .append, args := #[s, x], argTypes := #[47, 47] })
    (base : Nat) (v : Value) (l ds : List UInt8) (b m : Nat)
    (hown : OwnM w base v l) (hs : a.eval s = v) (hx : a.eval x = .slice (some ⟨b, 0, none⟩) m m) (hm : m = ds.length) (h0 : 0 < m)
    (hnews : ∀ j (hj : j < ds.length), w.cell? ⟨b, j, none⟩ = some (.int .u8 (ds[j].toNat : Int))) (hlen : l.length + m ≤ 1099511627776) (hbase : base ≤ w.heap.size)
    (h : ∀ v' w', OwnB w' base v' (l ++ ds) → Below base w w' → wpList Tryz.prog ops Q rest (a.put o.dst v') w') :
    wpList Tryz.prog ops Q (o :: rest) a w := by
  have hw : Region.wanted o (yielded ops a.tmps) = true := by simp [Region.wanted, hgd]
  have hst := step_append_M (ops := ops) (Q := Q) (E := False) hgd s x ho base v l ds b m hown hs hx hm h0 hnews hlen hbase h
  unfold wpList
  rw [if_pos hw] at hst ⊢
  exact .inl hst
/-- two bytes appended, as one step of a region that draws -/
theorem step_append_M2 {w : World} {ops : Array Oper} {o : Oper} {a : Act} {K : Act → World → Prop} {Q : Exit → Act → World → Prop} {E : Prop} (hgd : o.guard = none) (s x : Operand)
    (ho : o.op = .call { callee := .builtin .append, args := #[s, x], argTypes := #[47, 47] })
    (base : Nat) (v : Value) (l : List UInt8) (c d : UInt8) (b : Nat) (z y : Int)
    (hown : OwnM w base v l) (hs : a.eval s = v) (hx : a.eval x = .slice (some ⟨b, 0, none⟩) 2 2) (hz : z = (c.toNat : Int)) (hy : y = (d.toNat : Int))
    (hcell : w.cell? ⟨b, 0, none⟩ = some (.int .u8 z)) (hcell2 : w.cell? ⟨b, 1, none⟩ = some (.int .u8 y)) (hlen : l.length + 2 ≤ 1099511627776) (hbase : base ≤ w.heap.size)
    (h : ∀ v' w', OwnB w' base v' (l ++ [c, d]) → Below base w w' → K (a.put o.dst v') w') :
    if Region.wanted o (yielded ops a.tmps) = true then Oper.wp Tryz.prog o a w K Q else E := by
  subst hz hy
  refine step_append_M hgd s x ho base v l [c, d] b 2 hown hs hx rfl (by decide) (fun j hj => ?_) hlen hbase h
  match j, hj with
  | 0, _ => exact hcell
  | 1, _ => exact hcell2
/-- one byte appended, one behind the other -/
theorem wpList_append_M1 {w : World} {ops : Array Oper} {rest : List Oper} {o : Oper} {a : Act} {Q : Exit → Act → World → Prop} (hgd : o.guard = none) (s x : Operand)
    (ho : o.op = .call { callee := .builtin .append, args := #[s, x], argTypes := #[47, 47] })
    (base : Nat) (v : Value) (l : List UInt8) (c : UInt8) (b : Nat) (z : Int)
    (hown : OwnM w base v l) (hs : a.eval s = v) (hx : a.eval x = .slice (some ⟨b, 0, none⟩) 1 1) (hz : z = (c.toNat : Int))
    (hcell : w.cell? ⟨b, 0, none⟩ = some (.int .u8 z)) (hlen : l.length + 1 ≤ 1099511627776) (hbase : base ≤ w.heap.size)
    (h : ∀ v' w', OwnB w' base v' (l ++ [c]) → Below base w w' → wpList Tryz.prog ops Q rest (a.put o.dst v') w') :
    wpList Tryz.prog ops Q (o :: rest) a w := by
  subst hz
  refine wpList_append_M hgd s x ho base v l [c] b 1 hown hs hx rfl (by decide) (fun j hj => ?_) hlen hbase h
  match j, hj with
  | 0, _ => exact hcell
/-- the row survives what is made behind it -/
theorem OwnM.alloc {w : World} {base : Nat} {v : Value} {l : List UInt8} (h : OwnM w base v l) (o : Obj) : OwnM (w.alloc o) base v l := by
  rcases h with h | ⟨g, rfl, hg, hc⟩
  · exact .inl (h.alloc o)
  · refine .inr ⟨g, rfl, hg, fun j hj => Lib.cell?_alloc_marked o (hc j hj)⟩
theorem OwnM.drew {w : World} {base : Nat} {v : Value} {l : List UInt8} (h : OwnM w base v l) : OwnM w.drew base v l := h

theorem and15 (c : UInt8) : bits BinOp.and IntKind.u8 (c.toNat : Int) 15 = (c.toNat : Int) % 16 := by
  have h : ∀ k : Fin 256, bits BinOp.and IntKind.u8 (k.1 : Int) 15 = (k.1 : Int) % 16 := by decide +kernel
  exact h ⟨c.toNat, c.toNat_lt⟩
set_option maxRecDepth 100000 in
set_option maxHeartbeats 1600000 in
theorem printBytes_any (s : ByteArray) (w : World) (hs : s.size ≤ 1000000) : Calls Tryz.prog 96 #[.string s] w fun e w' => e = .returned (.string ⟨(120 :: 34 :: (hxs (bs s) ++ [34])).toArray⟩) ∧ Below w.heap.size w w' := by
  have kc := fun (w : World) (C : Array Value) (n c : Nat) => Lib.run_convert_bytes_const (P := Tryz.prog) w 47 5 C n c Tryz.underlying47 Tryz.underlying5
  go_enter Tryz.func96, Tryz.ntmps96
  go_wp2_with fail
  clear kc
  go_loopw [3, 9] (fun v i wr => ∃ k : Nat, k ≤ s.size ∧ i = .int .i64 k ∧ Hid (OwnM wr w.heap.size v (120 :: 34 :: hxs ((bs s).take k))) ∧ Below w.heap.size w wr) (fun _ i _ => s.size - (intOf i).toNat)
  case atStart =>
    refine ⟨0, by omega, rfl, ?_, (Below.refl _ _).alloc (Nat.le_refl _) _⟩
    refine .inr ⟨w.heap.size, rfl, Nat.le_refl _, fun j hj => ?_⟩
    have hj' : j < 2 := hj
    rw [World.cell?_alloc_mark]
    match j, hj' with
    | 0, _ => rfl
    | 1, _ => rfl
  case round =>
    obtain ⟨k, hk, rfl, ho, hb⟩ := hrel
    have hsz := hb.size
    by_cases hlt : k < s.size
    · have Hat := Lib.hid (bs_at s k hlt)
      have hl1 : (120 :: 34 :: hxs ((bs s).take k)).length + 2 ≤ 1099511627776 := by
        have h3 := List.length_take_le k (bs s)
        rw [List.length_cons, List.length_cons, hxs_len]; omega
      have Hl := Lib.hid hl1; clear hl1
      have hc : s[k].toNat < 256 := s[k].toNat_lt
      have b1 : (0 : Int) ≤ (s[k].toNat : Int) % 16 := by omega
      have b2 : (s[k].toNat : Int) % 16 < 16 := by omega
      have b3 : (0 : Int) ≤ (s[k].toNat : Int) / 16 := by omega
      have b4 : (s[k].toNat : Int) / 16 < 16 := by omega
      have c1 : s[k].toNat / 16 < 16 := by omega
      have c2 : s[k].toNat % 16 < 16 := by omega
      have hand := and15 s[k]
      have Ho := Lib.hid ho.out.drew
      have Hn : Hid ((120 :: 34 :: hxs ((bs s).take k)) ++ [dgs[s[k].toNat / 16]'c1, dgs[s[k].toNat % 16]'c2] = 120 :: 34 :: hxs ((bs s).take (k + 1))) := by
        show _ = _
        rw [take_at Hat.out, hxs_snoc, dgs_at _ c1, dgs_at _ c2]; rfl
      unfold dgs at Hn
      go_wp2_with fail
      go_region_law (refine step_append_M2 rfl (.tmp 12) (.tmp 23) rfl w.heap.size _ _ ((⟨#[48, 49, 50, 51, 52, 53, 54, 55, 56, 57, 97, 98, 99, 100, 101, 102]⟩ : ByteArray)[s[k].toNat / 16]'c1) ((⟨#[48, 49, 50, 51, 52, 53, 54, 55, 56, 57, 97, 98, 99, 100, 101, 102]⟩ : ByteArray)[s[k].toNat % 16]'c2) wr.heap.size _ _ (Ho.out.alloc _) (by simp [Act.eval]) (by simp [Act.eval]) rfl rfl (by simp; rfl) (by simp; rfl) Hl.out (by simp; omega) ?_; intro v1 w1 ho1 hb1)
      all_goals (
        have R1 : OwnB w1 w.heap.size v1 (120 :: 34 :: hxs ((bs s).take (k + 1))) := by rw [← Hn.out]; exact ho1
        have R2 := ((hb.alloc hsz _).drew).trans hb1
        clear hb1 ho1
        go_wp2
        go_roundw
        case rel => exact ⟨k + 1, by omega, by go_num, .inl R1, R2⟩
        case measure => simp [intOf]; omega)
    · have Hk : Hid ((bs s).take k = bs s) := by show _ = _; rw [List.take_of_length_le (by rw [bs_length]; omega)]
      rw [Hk.out] at ho
      have hl1 : (120 :: 34 :: hxs (bs s)).length + 1 ≤ 1099511627776 := by
        have h3 := bs_length s
        rw [List.length_cons, List.length_cons, hxs_len]; omega
      have Hl := Lib.hid hl1; clear hl1
      have ho1 := ho.out
      go_wp2_with (at_builtin; refine wpList_append_M1 rfl _ _ rfl w.heap.size _ _ 34 wr.heap.size 34 (ho1.alloc _) rfl rfl rfl (by simp) Hl.out (by simp; omega) ?_; intro v' w2 ho2 hb2; have hcv := run_string_own ho2 w2 (fun _ => rfl); clear ho2)
      go_ret
      exact ⟨rfl, (hb.alloc hsz _).trans hb2⟩

set_option maxRecDepth 100000 in
set_option maxHeartbeats 1600000 in
theorem rhex_any (s : ByteArray) (w : World) (hs : s.size ≤ 1000000) : Calls Tryz.prog 51 #[.string s] w fun e w' => e = .returned (.string ⟨(hxs (bs s)).toArray⟩) ∧ Drew w w' := by
  go_enter Tryz.func51, Tryz.ntmps51
  go_wp2_with fail
  go_loopw [3, 4] (fun v i wr => ∃ (k : Nat) (t : ByteArray), k ≤ s.size ∧ i = .int .i64 k ∧ v = .string t ∧ Hid (bs t = hxs ((bs s).take k)) ∧ Hid (Drew w wr)) (fun _ i _ => s.size - (intOf i).toNat)
  case atStart => exact ⟨0, ⟨#[]⟩, by omega, rfl, rfl, rfl, Drew.refl _⟩
  case round =>
    obtain ⟨k, t, hk, rfl, rfl, ht, hb⟩ := hrel
    have htl : t.size ≤ 2 * k := by
      have h3 := List.length_take_le k (bs s)
      rw [← bs_length, ht.out, hxs_len]; omega
    by_cases hlt : k < s.size
    · have Hat := Lib.hid (bs_at s k hlt)
      have hc : s[k].toNat < 256 := s[k].toNat_lt
      have b1 : (0 : Int) ≤ (s[k].toNat : Int) % 16 := by omega
      have b2 : (s[k].toNat : Int) % 16 < 16 := by omega
      have b3 : (0 : Int) ≤ (s[k].toNat : Int) / 16 := by omega
      have b4 : (s[k].toNat : Int) / 16 < 16 := by omega
      have c1 : s[k].toNat / 16 < 16 := by omega
      have c2 : s[k].toNat % 16 < 16 := by omega
      have Hn : Hid (bs (t ++ dgs.extract (s[k].toNat / 16) (s[k].toNat / 16 + 1) ++ dgs.extract (s[k].toNat % 16) (s[k].toNat % 16 + 1)) = hxs ((bs s).take (k + 1))) := by
        show _ = _
        rw [bs_append, bs_append, ht.out, dgs_cut _ c1, dgs_cut _ c2, take_at Hat.out, hxs_snoc, List.append_assoc]; rfl
      unfold dgs at Hn
      go_wp2_with fail
      have hts : t.size + 1 ≤ 9223372036854775807 := by omega
      go_quiet (fail)
      go_wp2
      go_roundw
      case rel => exact ⟨k + 1, _, by omega, by go_num, rfl, Hn.out, hb.out.more _⟩
      case measure => simp [intOf]; omega
    · have Hn : Hid (t = ⟨(hxs (bs s)).toArray⟩) := by
        show _ = _
        refine bs_eq ?_
        rw [ht.out, List.take_of_length_le (by rw [bs_length]; omega)]
        exact (bs_mk _).symm
      go_wp2
      go_ret
      exact ⟨congrArg (fun x => Ending.returned (.string x)) Hn.out, hb.out⟩
end Go.Proofs.YtebldfnocpcddaaGreatDoor
