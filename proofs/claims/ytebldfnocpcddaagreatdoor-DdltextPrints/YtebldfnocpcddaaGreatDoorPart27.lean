/-
  Texts that the proof needs, one behind the other: DtxQ2C, DtxQ3C, DtxQ4C, DtxQ5C, DtxQ6C.
-/
import Derived.Test.YtebldfnocpcddaaGreatDoorPart26
import Derived.Test.YtebldfnocpcddaaGreatDoorPart12
import Derived.Test.YtebldfnocpcddaaGreatDoorPart21
import Derived.Test.YtebldfnocpcddaaGreatDoorPart23
import Derived.Test.YtebldfnocpcddaaGreatDoorPart8
import Derived.Test.YtebldfnocpcddaaGreatDoorPart16

/-
  The program's parser of changes (layer 10): the rest, words, signs.
-/
namespace Go.Proofs.YtebldfnocpcddaaGreatDoor
open Go.RowKit

theorem QBx.drewN {T : TypeId} {w : World} {b : Nat} {s : ByteArray} {a : Nat} (h : QBx T w b s a) (n : Nat) : QBx T (w.drewN n) b s a := h.below (below_drewN (Below.refl _ _) n)
theorem Off.drewN {S : Nat → Prop} {w w' : World} (h : Off S w w') (n : Nat) : Off S w (w'.drewN n) := h.then (below_drewN (Below.refl _ _) n)
set_option maxRecDepth 100000 in
set_option maxHeartbeats 800000 in
theorem qrest_any (b : Nat) (s : ByteArray) (a : Nat) (w : World) (h : QBx 63 w b s a) (hs : s.size ≤ 1000000) :
    Calls Tryz.prog 59 #[.pointer (some ⟨b, 0, none⟩)] w fun en w' => en = .returned (.string (strB (bl ((bs s).drop a)))) ∧ QBx 63 w' b s (nb s a) ∧ Off (fun k => k = b) w w' := by
  have HB := Lib.hid (qskip_any b s a w h hs)
  obtain ⟨hn1, hn2⟩ := nb_le h.le
  have hy : s.extract (nb s a) s.size = strB (bl ((bs s).drop a)) := by
    refine bs_eq ?_
    rw [bs_extract, List.take_of_length_le (by rw [bs_length]; omega), nb_drop h.le]; rfl
  obtain ⟨y, hy0⟩ : ∃ y, strB (bl ((bs s).drop a)) = y := ⟨_, rfl⟩
  rw [hy0] at hy ⊢
  have Hy := Lib.hid hy
  obtain ⟨k, hk⟩ : ∃ k, nb s a = k := ⟨_, rfl⟩
  rw [hk] at HB hn2 Hy ⊢
  clear h hk hy hy0 hn1
  go_enter Tryz.func59, Tryz.ntmps59
  go_wp2_with fail
  refine HB.out.mono ?_
  rintro en w1 ⟨rfl, hp, ho⟩
  have HP := Lib.hid hp; have HO := Lib.hid ho; clear hp ho
  obtain ⟨c0, c1⟩ := HP.out.cells
  go_wp2_with fail
  go_quiet (fail)
  go_wp2_with fail
  go_ret
  exact ⟨by rw [← Hy.out]; rfl, HP.out.drewN _, HO.out.drewN _⟩
set_option maxRecDepth 100000 in
set_option maxHeartbeats 800000 in
theorem qnext_any (b : Nat) (s : ByteArray) (a : Nat) (w : World) (h : QBx 63 w b s a) (hs : s.size ≤ 1000000) :
    Calls Tryz.prog 79 #[.pointer (some ⟨b, 0, none⟩)] w fun en w' => en = .returned (.string (wdB s a)) ∧ QBx 63 w' b s (nb s a) ∧ Off (fun k => k = b) w w' := by
  have HB := Lib.hid (qrest_any b s a w h hs)
  obtain ⟨y, hy0⟩ : ∃ y, strB (bl ((bs s).drop a)) = y := ⟨_, rfl⟩
  have hby : bs y = bl ((bs s).drop a) := by rw [← hy0]; rfl
  rw [hy0] at HB
  have hys : y.size ≤ s.size := by
    have := bl_len ((bs s).drop a)
    rw [← hby, bs_length, List.length_drop, bs_length] at this
    omega
  have hle := rdN_le (bs y)
  rw [bs_length] at hle
  obtain ⟨m, hm⟩ : ∃ m, rdN (bs y) = m := ⟨_, rfl⟩
  have HR := Lib.hid (fun w => nread_any y w (by omega))
  have Hw : Hid (y.extract 0 m = wdB s a) := by
    refine bs_eq ?_
    rw [bs_front]
    show _ = wd (bl ((bs s).drop a))
    rw [← hby, ← hm]; rfl
  rw [hm] at HR hle
  clear h hy0 hby hm
  go_enter Tryz.func79, Tryz.ntmps79
  go_wp2_with fail
  refine HB.out.mono ?_
  rintro en w1 ⟨rfl, hp, ho⟩
  have HP := Lib.hid hp; have HO := Lib.hid ho; clear hp ho
  go_wp2_with fail
  refine (HR.out _).mono ?_
  rintro en w2 ⟨rfl, rfl⟩
  go_wp2_with fail
  go_ret
  exact ⟨by rw [← Hw.out]; rfl, HP.out, HO.out⟩
theorem wdB_eq {s x : ByteArray} {a : Nat} : (wdB s a = x) ↔ twB s a x = true := by
  unfold twB
  rw [decide_eq_true_eq]
  exact ⟨fun h => by rw [← h]; rfl, fun h => bs_eq h⟩
set_option maxRecDepth 100000 in
set_option maxHeartbeats 800000 in
theorem qtakeW_any (b : Nat) (s : ByteArray) (a : Nat) (x : ByteArray) (w : World) (h : QBx 63 w b s a) (hs : s.size ≤ 1000000) :
    Calls Tryz.prog 78 #[.pointer (some ⟨b, 0, none⟩), .string x] w fun en w' => en = .returned (.bool (twB s a x)) ∧ QBx 63 w' b s (twA s a x) ∧ Off (fun k => k = b) w w' := by
  have HB := Lib.hid (qnext_any b s a w h hs)
  have hA := twA_le (x := x) h.le
  have hn2 := (nb_le h.le).2
  obtain ⟨y, hy⟩ : ∃ y, wdB s a = y := ⟨_, rfl⟩
  rw [hy] at HB
  cases ht : twB s a x
  · have hne : bs y ≠ bs x := fun e => by
      have := wdB_eq.1 (hy.trans (bs_eq e))
      rw [ht] at this; cases this
    have t1 := neS hne
    have t2 : (y.toList != x.toList) = true := by unfold bne; rw [t1]; rfl
    have Hk : Hid (twA s a x = nb s a) := by show _ = _; unfold twA; rw [ht]; rfl
    clear h hne hy ht
    go_enter Tryz.func78, Tryz.ntmps78
    go_wp2_with fail
    refine HB.out.mono ?_
    rintro en w1 ⟨rfl, hp, ho⟩
    have HP := Lib.hid hp; have HO := Lib.hid ho; clear hp ho
    go_wp2_with fail
    go_ret
    exact ⟨rfl, by rw [Hk.out]; exact HP.out, HO.out⟩
  · have he : y = x := hy.symm.trans (wdB_eq.2 ht)
    subst he
    have t1 := eqS' (a := y) (b := y) rfl
    have t2 : (y.toList != y.toList) = false := by unfold bne; rw [t1]; rfl
    have hk : twA s a y = nb s a + y.size := by unfold twA; rw [ht]; rfl
    rw [hk] at hA ⊢
    obtain ⟨k, hkk⟩ : ∃ k, nb s a = k := ⟨_, rfl⟩
    rw [hkk] at HB hA ⊢
    have w1 : IntKind.i64.wrap ((k : Int) + (y.size : Int)) = (k : Int) + (y.size : Int) := IntWalk.i64_in _ (by omega)
    have HQ := Lib.hid (fun w' (q : QBx 63 w' b s k) => q.set (k + y.size) hA)
    clear h hy ht hk hkk hn2
    go_enter Tryz.func78, Tryz.ntmps78
    go_wp2_with fail
    refine HB.out.mono ?_
    rintro en w1 ⟨rfl, hp, ho⟩
    have HP := Lib.hid hp; have HO := Lib.hid ho; clear hp ho
    obtain ⟨c0, c1⟩ := HP.out.cells
    have f1 := HP.out.frozen 1
    go_wp2_with fail
    go_ret
    exact ⟨rfl, (HQ.out _ HP.out).1, HO.out.trans (HQ.out _ HP.out).2⟩
set_option maxRecDepth 100000 in
set_option maxHeartbeats 800000 in
theorem qtakeM_any (b : Nat) (s : ByteArray) (a : Nat) (c : UInt8) (w : World) (h : QBx 63 w b s a) (hs : s.size ≤ 1000000) :
    Calls Tryz.prog 81 #[.pointer (some ⟨b, 0, none⟩), .string ⟨#[c]⟩] w fun en w' => en = .returned (.bool (tmB s a c)) ∧ QBx 63 w' b s (tmA s a c) ∧ Off (fun k => k = b) w w' := by
  have HB := Lib.hid (qrest_any b s a w h hs)
  have hA := tmA_le (c := c) h.le
  have hn2 := (nb_le h.le).2
  obtain ⟨y, hy⟩ : ∃ y, strB (bl ((bs s).drop a)) = y := ⟨_, rfl⟩
  rw [hy] at HB
  have HH : Hid (∀ w, Calls Tryz.prog 98 #[.string y, .string ⟨#[c]⟩] w fun e w' => e = .returned (.bool (tmB s a c)) ∧ w = w') := fun w => by
    have := hasPrefix_any y ⟨#[c]⟩ w
    have e : (bs (⟨#[c]⟩ : ByteArray)).isPrefixOf (bs y) = tmB s a c := by
      rw [← hy]
      show [c].isPrefixOf (bl ((bs s).drop a)) = decide ((bl ((bs s).drop a))[0]? = some c)
      cases bl ((bs s).drop a) with
      | nil => rfl
      | cons d q =>
        show ((c == d) && true) = decide (some d = some c)
        rw [Bool.and_true, Bool.eq_iff_iff, beq_iff_eq, decide_eq_true_eq]
        exact ⟨fun h => by rw [h], fun h => by cases h; rfl⟩
    rw [e] at this
    exact this
  clear hy
  cases ht : tmB s a c
  · rw [ht] at HH
    have Hk : Hid (tmA s a c = nb s a) := by show _ = _; unfold tmA; rw [ht]; rfl
    clear h ht
    go_enter Tryz.func81, Tryz.ntmps81
    go_wp2_with fail
    refine HB.out.mono ?_
    rintro en w1 ⟨rfl, hp, ho⟩
    have HP := Lib.hid hp; have HO := Lib.hid ho; clear hp ho
    go_wp2_with fail
    refine (HH.out _).mono ?_
    rintro en w2 ⟨rfl, rfl⟩
    go_wp2_with fail
    go_ret
    exact ⟨rfl, by rw [Hk.out]; exact HP.out, HO.out⟩
  · rw [ht] at HH
    have hk : tmA s a c = nb s a + 1 := by unfold tmA; rw [ht]; rfl
    rw [hk] at hA ⊢
    obtain ⟨k, hkk⟩ : ∃ k, nb s a = k := ⟨_, rfl⟩
    rw [hkk] at HB hA ⊢
    have w1 : IntKind.i64.wrap ((k : Int) + 1) = (k : Int) + 1 := IntWalk.i64_in _ (by omega)
    have HQ := Lib.hid (fun w' (q : QBx 63 w' b s k) => q.set (k + 1) hA)
    clear h ht hk hkk hn2
    go_enter Tryz.func81, Tryz.ntmps81
    go_wp2_with fail
    refine HB.out.mono ?_
    rintro en w1 ⟨rfl, hp, ho⟩
    have HP := Lib.hid hp; have HO := Lib.hid ho; clear hp ho
    obtain ⟨c0, c1⟩ := HP.out.cells
    have f1 := HP.out.frozen 1
    go_wp2_with fail
    refine (HH.out _).mono ?_
    rintro en w2 ⟨rfl, rfl⟩
    go_wp2_with fail
    go_ret
    exact ⟨rfl, (HQ.out _ HP.out).1, HO.out.trans (HQ.out _ HP.out).2⟩
end Go.Proofs.YtebldfnocpcddaaGreatDoor

/-
  The program's parser of changes (layer 10): what has to come: a word, a sign, a name, a type, a value.
-/
namespace Go.Proofs.YtebldfnocpcddaaGreatDoor
open Go.RowKit

theorem put_ne (w : World) (r i : Nat) (v : Value) (b : Nat) (h : b ≠ r) : (w.setCell ⟨r, i, none⟩ v).heap[b]? = w.heap[b]? := heap_setCell_other w ⟨r, i, none⟩ b v (fun e => h (by simp [e]))
/-- the parser's block behind stores into new blocks -/
theorem QBx.fin {T T' : TypeId} {w0 w w' : World} {b : Nat} {s : ByteArray} {a0 a : Nat} (h0 : QBx T' w0 b s a0) (h : QBx T w b s a) (hw : w'.heap[b]? = w.heap[b]?) (ho : Off (fun k => k = b) w0 w') : QBx T w' b s a := ⟨hw.trans h.box, h.le, h0.tabs ho⟩
theorem un_to {m : List UInt8 → Except Er (List UInt8)} {s : ByteArray} {a a' : Nat} (h : m ((bs s).drop a) = .ok ((bs s).drop a')) : QTo (un m) s a () a' := by
  show (m ((bs s).drop a)).bind _ = _
  rw [h]; rfl
theorem un_no {m : List UInt8 → Except Er (List UInt8)} {s : ByteArray} {a a' e : Nat} (he : e ≠ 0) (h : m ((bs s).drop a) = .error ((bs s).drop a', e)) : QNo (un m) s a a' e := by
  refine ⟨he, ?_⟩
  show (m ((bs s).drop a)).bind _ = _
  rw [h]; rfl
set_option maxRecDepth 100000 in
set_option maxHeartbeats 800000 in
theorem qword_any (b : Nat) (s : ByteArray) (a : Nat) (x : ByteArray) (w : World) (h : QBx 63 w b s a) (hs : s.size ≤ 1000000) :
    Calls Tryz.prog 55 #[.pointer (some ⟨b, 0, none⟩), .string x] w fun en w' => QEnd 63 (un (pWord (bs x))) (fun _ => .tuple #[]) b s a w en w' := by
  have HB := Lib.hid (qtakeW_any b s a x w h hs)
  have ha := h.le
  clear h
  cases ht : twB s a x
  · have HN := Lib.hid (un_no (m := pWord (bs x)) (by decide) (tw_no ha ht))
    rw [ht] at HB
    clear ht ha
    go_enter Tryz.func55, Tryz.ntmps55
    go_wp2_with fail
    refine HB.out.mono ?_
    rintro en w1 ⟨rfl, hp, ho⟩
    have HP := Lib.hid hp; have HO := Lib.hid ho; clear hp ho
    go_wp2_with fail
    exact ⟨rfl, .no _ 5 rfl HP.out HO.out HN.out⟩
  · have HN := Lib.hid (un_to (tw_yes ha ht))
    rw [ht] at HB
    clear ht ha
    go_enter Tryz.func55, Tryz.ntmps55
    go_wp2_with fail
    refine HB.out.mono ?_
    rintro en w1 ⟨rfl, hp, ho⟩
    have HP := Lib.hid hp; have HO := Lib.hid ho; clear hp ho
    go_wp2_with fail
    go_end0
    exact .ok () _ rfl HP.out HO.out HN.out
set_option maxRecDepth 100000 in
set_option maxHeartbeats 800000 in
theorem qmark_any (b : Nat) (s : ByteArray) (a : Nat) (c : UInt8) (w : World) (h : QBx 63 w b s a) (hs : s.size ≤ 1000000) :
    Calls Tryz.prog 80 #[.pointer (some ⟨b, 0, none⟩), .string ⟨#[c]⟩] w fun en w' => QEnd 63 (un (pSign c)) (fun _ => .tuple #[]) b s a w en w' := by
  have HB := Lib.hid (qtakeM_any b s a c w h hs)
  have ha := h.le
  clear h
  cases ht : tmB s a c
  · have HN := Lib.hid (un_no (m := pSign c) (by decide) (tm_no ha ht))
    rw [ht] at HB
    clear ht ha
    go_enter Tryz.func80, Tryz.ntmps80
    go_wp2_with fail
    refine HB.out.mono ?_
    rintro en w1 ⟨rfl, hp, ho⟩
    have HP := Lib.hid hp; have HO := Lib.hid ho; clear hp ho
    go_wp2_with fail
    exact ⟨rfl, .no _ 5 rfl HP.out HO.out HN.out⟩
  · have HN := Lib.hid (un_to (tm_yes ha ht))
    rw [ht] at HB
    clear ht ha
    go_enter Tryz.func80, Tryz.ntmps80
    go_wp2_with fail
    refine HB.out.mono ?_
    rintro en w1 ⟨rfl, hp, ho⟩
    have HP := Lib.hid hp; have HO := Lib.hid ho; clear hp ho
    go_wp2_with fail
    go_end0
    exact .ok () _ rfl HP.out HO.out HN.out
set_option maxRecDepth 100000 in
set_option maxHeartbeats 800000 in
theorem qname_any (b : Nat) (s : ByteArray) (a : Nat) (w : World) (h : QBx 63 w b s a) (hs : s.size ≤ 1000000) :
    Calls Tryz.prog 53 #[.pointer (some ⟨b, 0, none⟩)] w fun en w' => QEnd 63 pName (fun n => .string (strB n)) b s a w en w' := by
  have HB := Lib.hid (qnext_any b s a w h hs)
  have ha := h.le
  have hz := wdB_size ha
  have hd := nb_drop ha
  obtain ⟨y, hy⟩ : ∃ y, wdB s a = y := ⟨_, rfl⟩
  have hby : wd (bl ((bs s).drop a)) = bs y := by rw [← hy]; rfl
  rw [hy] at HB hz
  clear h hy
  by_cases hq : bs y = []
  · have HN : Hid (QNo pName s a (nb s a) 5) := ⟨by decide, by unfold pName; rw [if_pos (by rw [hby]; exact hq), hd]⟩
    obtain rfl : y = ⟨#[]⟩ := bs_eq hq
    clear hq hby hd hz ha
    go_enter Tryz.func53, Tryz.ntmps53
    go_wp2_with fail
    refine HB.out.mono ?_
    rintro en w1 ⟨rfl, hp, ho⟩
    have HP := Lib.hid hp; have HO := Lib.hid ho; clear hp ho
    go_wp2_with fail
    exact ⟨rfl, .no _ 5 rfl HP.out HO.out HN.out⟩
  · have t1 := neL (a := y) (l := []) hq
    have t3 : y.toList.isEmpty = false := by
      cases hh : y.toList with
      | nil => rw [ByteArray.toList_eq] at hh; exact absurd hh hq
      | cons _ _ => rfl
    have t4 : ¬ y.toList = [] := by rw [ByteArray.toList_eq]; exact hq
    have HR := Lib.hid (fun w => nright_any y w (by omega))
    cases hr : rightN (bs y)
    · have HN : Hid (QNo pName s a (nb s a) 8) := ⟨by decide, by unfold pName; rw [hby, if_neg hq, if_neg (by rw [hr]; decide), hd]⟩
      rw [hr] at HR
      clear hq hby hd hz ha hr
      go_enter Tryz.func53, Tryz.ntmps53
      go_wp2_with fail
      refine HB.out.mono ?_
      rintro en w1 ⟨rfl, hp, ho⟩
      have HP := Lib.hid hp; have HO := Lib.hid ho; clear hp ho
      go_wp2_with fail
      refine (HR.out _).mono ?_
      rintro en w2 ⟨rfl, rfl⟩
      go_wp2_with fail
      exact ⟨rfl, .no _ 8 rfl HP.out HO.out HN.out⟩
    · have HN : Hid (QTo pName s a (bs y) (nb s a + y.size)) := by
        show pName ((bs s).drop a) = _
        unfold pName
        rw [hby, if_neg hq, if_pos hr, ← hd, drop_more, bs_length]
      rw [hr] at HR
      have HQ := Lib.hid (fun w' (q : QBx 63 w' b s (nb s a)) => q.set (nb s a + y.size) hz)
      obtain ⟨k, hk⟩ : ∃ k, nb s a = k := ⟨_, rfl⟩
      rw [hk] at HB HN HQ hz
      have w1 : IntKind.i64.wrap ((k : Int) + (y.size : Int)) = (k : Int) + (y.size : Int) := IntWalk.i64_in _ (by omega)
      clear hq hby hd hz ha hr hk
      go_enter Tryz.func53, Tryz.ntmps53
      go_wp2_with fail
      refine HB.out.mono ?_
      rintro en w1 ⟨rfl, hp, ho⟩
      have HP := Lib.hid hp; have HO := Lib.hid ho; clear hp ho
      obtain ⟨c0, c1⟩ := HP.out.cells
      have f1 := HP.out.frozen 1
      go_wp2_with fail
      refine (HR.out _).mono ?_
      rintro en w2 ⟨rfl, rfl⟩
      go_wp2_with fail
      go_ret
      exact .ok (bs y) _ (ret_strB _) (HQ.out _ HP.out).1 (HO.out.trans (HQ.out _ HP.out).2) HN.out
set_option maxRecDepth 100000 in
theorem qacc_ok (b : Nat) (s : ByteArray) (a n : Nat) (w : World) (h : QBx 63 w b s a) (hs : s.size ≤ 1000000) (hn : a + n ≤ s.size) :
    Calls Tryz.prog 85 #[.pointer (some ⟨b, 0, none⟩), .int .i64 (n : Int), .int .i64 0] w fun en w' => en = .returned (.tuple #[]) ∧ QBx 63 w' b s (a + n) ∧ Off (fun k => k = b) w w' := by
  have w1 : IntKind.i64.wrap ((a : Int) + (n : Int)) = (a : Int) + (n : Int) := IntWalk.i64_in _ (by omega)
  have HQ := Lib.hid (h.set (a + n) hn)
  obtain ⟨c0, c1⟩ := h.cells
  have f1 := h.frozen 1
  clear h hn
  go_enter Tryz.func85, Tryz.ntmps85
  go_wp2_with fail
  go_end0
  exact ⟨rfl, HQ.out⟩
theorem qacc_no (p : Value) (n e : Nat) (w : World) (he : e ≠ 0) :
    Calls Tryz.prog 85 #[p, .int .i64 (n : Int), .int .i64 (e : Int)] w fun en w' => en = pan e ∧ w = w' := by
  have e0 : ((e : Int) != 0) = true := by simp; omega
  clear he
  go_enter Tryz.func85, Tryz.ntmps85
  go_wp2_with fail
  exact ⟨rfl, rfl, rfl⟩
set_option maxRecDepth 100000 in
set_option maxHeartbeats 1600000 in
theorem qkind_any (b : Nat) (s : ByteArray) (a : Nat) (w : World) (h : QBx 63 w b s a) (hs : s.size ≤ 1000000) :
    Calls Tryz.prog 57 #[.pointer (some ⟨b, 0, none⟩)] w fun en w' => QEnd 63 pKind (fun t => TT t.1 t.2) b s a w en w' := by
  have ha := h.le
  have hd := nb_drop ha
  have hn2 := (nb_le ha).2
  have hne : b ≠ w.heap.size := by have := h.lt; omega
  obtain ⟨wa, hwa⟩ : ∃ wa, w.alloc (.cells #[.int .i64 0, .int .i64 0] 23) = wa := ⟨_, rfl⟩
  have hba : Below w.heap.size w wa := by rw [← hwa]; exact (Below.refl _ _).alloc (Nat.le_refl _) _
  have Hca : Hid (Bk 23 wa w.heap.size [.int .i64 0, .int .i64 0]) := by rw [← hwa]; exact Bk.new w _ _
  have Hwa := Lib.hid hwa; clear hwa
  have HBa := Lib.hid hba
  have HB := Lib.hid (qrest_any b s a wa (h.below hba) hs); have H0 := Lib.hid h; clear hba h
  obtain ⟨y, hy⟩ : ∃ y, strB (bl ((bs s).drop a)) = y := ⟨_, rfl⟩
  have hby : bs y = bl ((bs s).drop a) := by rw [← hy]; rfl
  have hys : y.size ≤ s.size := by
    have := bl_len ((bs s).drop a)
    rw [← hby, bs_length, List.length_drop, bs_length] at this
    omega
  rw [hy] at HB
  obtain ⟨⟨⟨tk, tm⟩, n, e⟩, hr⟩ : ∃ r, readT (bs y) = r := ⟨_, rfl⟩
  have HR : Hid (∀ w, KTab w → Calls Tryz.prog 84 #[.string y] w fun e' w' => e' = .returned (.tuple #[TT tk tm, .int .i64 ((n : Nat) : Int), .int .i64 ((e : Nat) : Int)]) ∧ Below w.heap.size w w') := fun w hk => by
    have := tread_any y w hk (by omega)
    rw [hr] at this
    exact this
  have hnl : nb s a + n ≤ s.size := by
    have h1 := readT_le hr
    rw [hby, ← hd, List.length_drop, bs_length] at h1
    omega
  have HF : Hid (if e = 0 then QTo pKind s a (tk, tm) (nb s a + n) else QNo pKind s a (nb s a) e) := by
    show if e = 0 then _ else _
    rw [hby] at hr
    by_cases he : e = 0
    · rw [if_pos he]
      show pKind ((bs s).drop a) = _
      unfold pKind
      rw [hr, if_pos he, ← hd, drop_more]
    · rw [if_neg he]
      refine ⟨he, ?_⟩
      unfold pKind
      rw [hr, if_neg he, ← hd]
  obtain ⟨k, hk⟩ : ∃ k, nb s a = k := ⟨_, rfl⟩
  rw [hk] at HB HF hnl
  clear hy hby hys hr hd hn2 ha hk
  by_cases he : e = 0
  · subst he
    have hF : QTo pKind s a (tk, tm) (k + n) := HF.out
    have HF := Lib.hid hF; clear hF
    go_enter Tryz.func57, Tryz.ntmps57
    go_wp2_with fail
    rw [Hwa.out]
    refine HB.out.mono ?_
    rintro en w1 ⟨rfl, hp, ho⟩
    have HP := Lib.hid hp; have HO := Lib.hid ((Off.of_below HBa.out).trans ho); have HRb := Lib.hid (Hca.out.off ho (fun h => hne h.symm)); clear hp ho
    go_wp2_with fail
    refine (HR.out _ HP.out.tbs.2.1).mono ?_
    rintro en w2 ⟨rfl, hb⟩
    have HP2 := Lib.hid (HP.out.below hb); have HO2 := Lib.hid (HO.out.then hb); have HR2 := Lib.hid (HRb.out.below hb); clear hb
    go_wp2_with fail
    have HP3 := Lib.hid (HP2.out.below ((Below.refl w2.heap.size w2).alloc (Nat.le_refl _) (.cells #[.int .i64 tk, .int .i64 tm] 23)))
    have HL := Lib.hid (Bk.new w2 [.int .i64 tk, .int .i64 tm] 23)
    have HR3 := Lib.hid (HR2.out.below ((Below.refl w2.heap.size w2).alloc (Nat.le_refl _) (.cells #[.int .i64 tk, .int .i64 tm] 23)))
    have HO3 := Lib.hid (HO2.out.new (.cells #[.int .i64 tk, .int .i64 tm] 23))
    have Hbl := Lib.hid HP2.out.lt
    refine (qacc_ok b s k n _ HP3.out hs hnl).mono ?_
    rintro en w3 ⟨rfl, hp, ho⟩
    have HP4 := Lib.hid hp; have HO4 := Lib.hid (HO3.out.trans ho); have HL4 := Lib.hid (HL.out.off ho (fun h => by have := Hbl.out; omega)); have HR4 := Lib.hid (HR3.out.off ho (fun h => hne h.symm)); clear hp ho
    have l0 := HL4.out.at 0 _ rfl
    have l1 := HL4.out.at 1 _ rfl
    have r0 := HR4.out.at 0 _ rfl
    have r1 := HR4.out.at 1 _ rfl
    have q0 := HR4.out.thaw 0
    have q1 := HR4.out.thaw 1
    go_wp2_with fail
    refine bodyPost_ret (results_kT rfl _ rfl ((HR4.out.set 0 (.int .i64 tk)).set 1 (.int .i64 tm))) rfl ?_
    have ho := (HO4.out.put w.heap.size 0 (.int .i64 tk) (Nat.le_refl _)).put w.heap.size 1 (.int .i64 tm) (Nat.le_refl _)
    exact .ok (tk, tm) _ rfl (H0.out.fin HP4.out (by rw [put_ne _ _ _ _ _ hne, put_ne _ _ _ _ _ hne]) ho) ho HF.out
  · have hF : QNo pKind s a k e := by have := HF.out; rwa [if_neg he] at this
    have HF := Lib.hid hF; clear hF
    have HA := Lib.hid (fun p n w => qacc_no p n e w he)
    clear he
    go_enter Tryz.func57, Tryz.ntmps57
    go_wp2_with fail
    rw [Hwa.out]
    refine HB.out.mono ?_
    rintro en w1 ⟨rfl, hp, ho⟩
    have HP := Lib.hid hp; have HO := Lib.hid ((Off.of_below HBa.out).trans ho); clear hp ho
    go_wp2_with fail
    refine (HR.out _ HP.out.tbs.2.1).mono ?_
    rintro en w2 ⟨rfl, hb⟩
    have HP2 := Lib.hid (HP.out.below hb); have HO2 := Lib.hid (HO.out.then hb); clear hb
    go_wp2_with fail
    refine (HA.out _ _ _).mono ?_
    rintro en w3 ⟨rfl, rfl⟩
    go_wp2_with fail
    exact ⟨rfl, .no k e rfl (HP2.out.below ((Below.refl _ _).alloc (Nat.le_refl _) _)) (HO2.out.new _) HF.out⟩
end Go.Proofs.YtebldfnocpcddaaGreatDoor

/-
  The program's parser of changes (layer 10): values, defaults, the end, the word that a change begins with.
-/
namespace Go.Proofs.YtebldfnocpcddaaGreatDoor
open Go.RowKit

set_option maxRecDepth 100000 in
set_option maxHeartbeats 1600000 in
theorem qvalue_any (b : Nat) (s : ByteArray) (a : Nat) (w : World) (h : QBx 63 w b s a) (hs : s.size ≤ 1000000) :
    Calls Tryz.prog 58 #[.pointer (some ⟨b, 0, none⟩)] w fun en w' => QEnd 63 (pVal true) (fun v => VV v.1 v.2.1 (strB v.2.2)) b s a w en w' := by
  have ha := h.le
  have hd := nb_drop ha
  have hn2 := (nb_le ha).2
  have hne : b ≠ w.heap.size := by have := h.lt; omega
  obtain ⟨wa, hwa⟩ : ∃ wa, w.alloc (.cells #[.int .i64 0, .int .i64 0, .string ⟨#[]⟩] 25) = wa := ⟨_, rfl⟩
  have hba : Below w.heap.size w wa := by rw [← hwa]; exact (Below.refl _ _).alloc (Nat.le_refl _) _
  have Hca : Hid (Bk 25 wa w.heap.size [.int .i64 0, .int .i64 0, .string ⟨#[]⟩]) := by rw [← hwa]; exact Bk.new w _ _
  have Hwa := Lib.hid hwa; clear hwa
  have HBa := Lib.hid hba
  have HB := Lib.hid (qrest_any b s a wa (h.below hba) hs); have H0 := Lib.hid h; clear hba h
  obtain ⟨y, hy⟩ : ∃ y, strB (bl ((bs s).drop a)) = y := ⟨_, rfl⟩
  have hby : bs y = bl ((bs s).drop a) := by rw [← hy]; rfl
  have hys : y.size ≤ s.size := by
    have := bl_len ((bs s).drop a)
    rw [← hby, bs_length, List.length_drop, bs_length] at this
    omega
  rw [hy] at HB
  obtain ⟨⟨⟨vk, vn, vt⟩, n, e⟩, hr⟩ : ∃ r, readW (bs y) = r := ⟨_, rfl⟩
  have HR : Hid (∀ w, UTab w → Calls Tryz.prog 86 #[.string y] w fun e' w' => e' = .returned (.tuple #[VV vk vn (strB vt), .int .i64 ((n : Nat) : Int), .int .i64 ((e : Nat) : Int)]) ∧ Below w.heap.size w w') := fun w hk => by
    have := vread_any y w hk (by omega)
    rw [hr] at this
    exact this
  have hnl : nb s a + n ≤ s.size := by
    have h1 := readW_le hr
    rw [hby, ← hd, List.length_drop, bs_length] at h1
    omega
  have HF : Hid (if e = 0 then QTo (pVal true) s a (vk, vn, vt) (nb s a + n) else QNo (pVal true) s a (nb s a) e) := by
    show if e = 0 then _ else _
    rw [hby] at hr
    by_cases he : e = 0
    · rw [if_pos he]
      show pVal true ((bs s).drop a) = _
      unfold pVal
      rw [hr, if_pos he, if_neg (by rintro ⟨_, h⟩; cases h), ← hd, drop_more]
    · rw [if_neg he]
      refine ⟨he, ?_⟩
      unfold pVal
      rw [hr, if_neg he, ← hd]
  obtain ⟨k, hk⟩ : ∃ k, nb s a = k := ⟨_, rfl⟩
  rw [hk] at HB HF hnl
  clear hy hby hys hr hd hn2 ha hk
  by_cases he : e = 0
  · subst he
    have hF : QTo (pVal true) s a (vk, vn, vt) (k + n) := HF.out
    have HF := Lib.hid hF; clear hF
    go_enter Tryz.func58, Tryz.ntmps58
    go_wp2_with fail
    rw [Hwa.out]
    refine HB.out.mono ?_
    rintro en w1 ⟨rfl, hp, ho⟩
    have HP := Lib.hid hp; have HO := Lib.hid ((Off.of_below HBa.out).trans ho); have HRb := Lib.hid (Hca.out.off ho (fun h => hne h.symm)); clear hp ho
    go_wp2_with fail
    refine (HR.out _ HP.out.tbs.1).mono ?_
    rintro en w2 ⟨rfl, hb⟩
    have HP2 := Lib.hid (HP.out.below hb); have HO2 := Lib.hid (HO.out.then hb); have HR2 := Lib.hid (HRb.out.below hb); clear hb
    go_wp2_with fail
    have HP3 := Lib.hid (HP2.out.below ((Below.refl w2.heap.size w2).alloc (Nat.le_refl _) (.cells #[.int .i64 vk, .int .i64 vn, .string (strB vt)] 25)))
    have HL := Lib.hid (Bk.new w2 [.int .i64 vk, .int .i64 vn, .string (strB vt)] 25)
    have HR3 := Lib.hid (HR2.out.below ((Below.refl w2.heap.size w2).alloc (Nat.le_refl _) (.cells #[.int .i64 vk, .int .i64 vn, .string (strB vt)] 25)))
    have HO3 := Lib.hid (HO2.out.new (.cells #[.int .i64 vk, .int .i64 vn, .string (strB vt)] 25))
    have Hbl := Lib.hid HP2.out.lt
    refine (qacc_ok b s k n _ HP3.out hs hnl).mono ?_
    rintro en w3 ⟨rfl, hp, ho⟩
    have HP4 := Lib.hid hp; have HO4 := Lib.hid (HO3.out.trans ho); have HL4 := Lib.hid (HL.out.off ho (fun h => by have := Hbl.out; omega)); have HR4 := Lib.hid (HR3.out.off ho (fun h => hne h.symm)); clear hp ho
    have l0 := HL4.out.at 0 _ rfl
    have l1 := HL4.out.at 1 _ rfl
    have l2 := HL4.out.at 2 _ rfl
    have r0 := HR4.out.at 0 _ rfl
    have r1 := HR4.out.at 1 _ rfl
    have r2 := HR4.out.at 2 _ rfl
    have q0 := HR4.out.thaw 0
    have q1 := HR4.out.thaw 1
    have q2 := HR4.out.thaw 2
    go_wp2_with fail
    refine bodyPost_ret (results_kV rfl _ rfl (((HR4.out.set 0 (.int .i64 vk)).set 1 (.int .i64 vn)).set 2 (.string (strB vt)))) rfl ?_
    have ho := ((HO4.out.put w.heap.size 0 (.int .i64 vk) (Nat.le_refl _)).put w.heap.size 1 (.int .i64 vn) (Nat.le_refl _)).put w.heap.size 2 (.string (strB vt)) (Nat.le_refl _)
    exact .ok (vk, vn, vt) _ rfl (H0.out.fin HP4.out (by rw [put_ne _ _ _ _ _ hne, put_ne _ _ _ _ _ hne, put_ne _ _ _ _ _ hne]) ho) ho HF.out
  · have hF : QNo (pVal true) s a k e := by have := HF.out; rwa [if_neg he] at this
    have HF := Lib.hid hF; clear hF
    have HA := Lib.hid (fun p n w => qacc_no p n e w he)
    clear he
    go_enter Tryz.func58, Tryz.ntmps58
    go_wp2_with fail
    rw [Hwa.out]
    refine HB.out.mono ?_
    rintro en w1 ⟨rfl, hp, ho⟩
    have HP := Lib.hid hp; have HO := Lib.hid ((Off.of_below HBa.out).trans ho); clear hp ho
    go_wp2_with fail
    refine (HR.out _ HP.out.tbs.1).mono ?_
    rintro en w2 ⟨rfl, hb⟩
    have HP2 := Lib.hid (HP.out.below hb); have HO2 := Lib.hid (HO.out.then hb); clear hb
    go_wp2_with fail
    refine (HA.out _ _ _).mono ?_
    rintro en w3 ⟨rfl, rfl⟩
    go_wp2_with fail
    exact ⟨rfl, .no k e rfl (HP2.out.below ((Below.refl _ _).alloc (Nat.le_refl _) _)) (HO2.out.new _) HF.out⟩
theorem pVal_bl (null : Bool) (r : List UInt8) : pVal null (bl r) = pVal null r := by unfold pVal; rw [bl_bl]
theorem pVal_nn {r : List UInt8} (h : wd (bl r) ≠ nullT) : pVal false r = pVal true r := by
  unfold pVal
  obtain ⟨⟨v, n, e⟩, hr⟩ : ∃ x, readW (bl r) = x := ⟨_, rfl⟩
  rw [hr]
  by_cases he : e = 0
  · subst he
    have hv : ¬ v.1 = 0 := fun h0 => h ((readW_kind hr).1 h0)
    show (if (0 : Nat) = 0 then (if v.1 = 0 ∧ false = false then _ else _) else _) = (if (0 : Nat) = 0 then (if v.1 = 0 ∧ true = false then _ else _) else _)
    rw [if_pos rfl, if_pos rfl, if_neg (fun h => hv h.1), if_neg (fun h => by cases h.2)]
  · show (if e = 0 then _ else _) = (if e = 0 then _ else _)
    rw [if_neg he, if_neg he]
theorem pVal_null {r : List UInt8} (h : wd (bl r) = nullT) : pVal false r = .error (bl r, 11) := by
  unfold pVal
  rw [readW_is h]
  show (if (0 : Nat) = 0 then (if (0 : Int) = 0 ∧ false = false then _ else _) else _) = _
  rw [if_pos rfl, if_pos ⟨rfl, rfl⟩]
set_option maxRecDepth 100000 in
set_option maxHeartbeats 800000 in
theorem qnotnull_any (b : Nat) (s : ByteArray) (a : Nat) (w : World) (h : QBx 63 w b s a) (hs : s.size ≤ 1000000) :
    Calls Tryz.prog 83 #[.pointer (some ⟨b, 0, none⟩)] w fun en w' => QEnd 63 (pVal false) (fun v => VV v.1 v.2.1 (strB v.2.2)) b s a w en w' := by
  have ha := h.le
  have hd := nb_drop ha
  have hne : b ≠ w.heap.size := by have := h.lt; omega
  obtain ⟨wa, hwa⟩ : ∃ wa, w.alloc (.cells #[.int .i64 0, .int .i64 0, .string ⟨#[]⟩] 25) = wa := ⟨_, rfl⟩
  have hba : Below w.heap.size w wa := by rw [← hwa]; exact (Below.refl _ _).alloc (Nat.le_refl _) _
  have Hca : Hid (Bk 25 wa w.heap.size [.int .i64 0, .int .i64 0, .string ⟨#[]⟩]) := by rw [← hwa]; exact Bk.new w _ _
  have Hwa := Lib.hid hwa; clear hwa
  have HBa := Lib.hid hba
  have HB := Lib.hid (qnext_any b s a wa (h.below hba) hs); have H0 := Lib.hid h; clear hba h
  obtain ⟨y, hy⟩ : ∃ y, wdB s a = y := ⟨_, rfl⟩
  have hby : wd (bl ((bs s).drop a)) = bs y := by rw [← hy]; rfl
  rw [hy] at HB
  clear hy
  by_cases hq : bs y = nullT
  · have t1 := eqL (a := y) (l := [110, 117, 108, 108]) hq
    have HN : Hid (QNo (pVal false) s a (nb s a) 11) := ⟨by decide, by rw [pVal_null (hby.trans hq), hd]⟩
    clear hq hby hd ha
    go_enter Tryz.func83, Tryz.ntmps83
    go_wp2_with fail
    rw [Hwa.out]
    refine HB.out.mono ?_
    rintro en w1 ⟨rfl, hp, ho⟩
    have HP := Lib.hid hp; have HO := Lib.hid ((Off.of_below HBa.out).trans ho); clear hp ho
    go_wp2_with fail
    exact ⟨rfl, .no _ 11 rfl HP.out HO.out HN.out⟩
  · have t1 := neL (a := y) (l := [110, 117, 108, 108]) hq
    have HC : Hid (pVal true ((bs s).drop (nb s a)) = pVal false ((bs s).drop a)) := by
      show _ = _
      rw [hd, pVal_bl, pVal_nn (by rw [hby]; exact hq)]
    clear hq hby hd ha
    go_enter Tryz.func83, Tryz.ntmps83
    go_wp2_with fail
    rw [Hwa.out]
    refine HB.out.mono ?_
    rintro en w1 ⟨rfl, hp, ho⟩
    have HP := Lib.hid hp; have HO := Lib.hid ((Off.of_below HBa.out).trans ho); have HR := Lib.hid (Hca.out.off ho (fun h => hne h.symm)); clear hp ho
    go_wp2_with fail
    refine (qvalue_any b s (nb s a) _ HP.out hs).mono ?_
    rintro en w2 ⟨ho, ⟨⟨vk, vn, vt⟩, a', rfl, hp, hto⟩ | ⟨a', e', rfl, hp, hno⟩⟩
    · have HP2 := Lib.hid hp; have HO2 := Lib.hid (HO.out.trans ho); have HR2 := Lib.hid (HR.out.off ho (fun h => hne h.symm))
      have HT : Hid (QTo (pVal false) s a (vk, vn, vt) a') := by show pVal false _ = _; rw [← HC.out]; exact hto
      clear hp ho hto
      have r0 := HR2.out.at 0 _ rfl
      have r1 := HR2.out.at 1 _ rfl
      have r2 := HR2.out.at 2 _ rfl
      have q0 := HR2.out.thaw 0
      have q1 := HR2.out.thaw 1
      have q2 := HR2.out.thaw 2
      go_wp2_with fail
      refine bodyPost_ret (results_kV rfl _ rfl (((HR2.out.set 0 (.int .i64 vk)).set 1 (.int .i64 vn)).set 2 (.string (strB vt)))) rfl ?_
      have ho := ((HO2.out.put w.heap.size 0 (.int .i64 vk) (Nat.le_refl _)).put w.heap.size 1 (.int .i64 vn) (Nat.le_refl _)).put w.heap.size 2 (.string (strB vt)) (Nat.le_refl _)
      exact .ok (vk, vn, vt) _ rfl (H0.out.fin HP2.out (by rw [put_ne _ _ _ _ _ hne, put_ne _ _ _ _ _ hne, put_ne _ _ _ _ _ hne]) ho) ho HT.out
    · have HT : Hid (QNo (pVal false) s a a' e') := ⟨hno.1, by rw [← HC.out]; exact hno.2⟩
      have HP2 := Lib.hid hp; have HO2 := Lib.hid (HO.out.trans ho)
      clear hp ho hno
      go_wp2_with fail
      exact ⟨rfl, .no _ _ rfl HP2.out HO2.out HT.out⟩
set_option maxRecDepth 100000 in
theorem qend_any (b : Nat) (s : ByteArray) (a : Nat) (w : World) (h : QBx 63 w b s a) (hs : s.size ≤ 1000000) :
    Calls Tryz.prog 32 #[.pointer (some ⟨b, 0, none⟩)] w fun en w' => QBx 63 w' b s (nb s a) ∧ Off (fun k => k = b) w w' ∧ ((bl ((bs s).drop a) = [] ∧ en = .returned (.tuple #[])) ∨ (bl ((bs s).drop a) ≠ [] ∧ en = pan 6)) := by
  have HB := Lib.hid (qrest_any b s a w h hs)
  obtain ⟨y, hy⟩ : ∃ y, strB (bl ((bs s).drop a)) = y := ⟨_, rfl⟩
  have hby : bl ((bs s).drop a) = bs y := by rw [← hy]; rfl
  rw [hy] at HB
  clear hy h
  by_cases hq : bs y = []
  · have Hq := Lib.hid (hby.trans hq)
    obtain rfl : y = ⟨#[]⟩ := bs_eq hq
    clear hq hby
    go_enter Tryz.func32, Tryz.ntmps32
    go_wp2_with fail
    refine HB.out.mono ?_
    rintro en w1 ⟨rfl, hp, ho⟩
    have HP := Lib.hid hp; have HO := Lib.hid ho; clear hp ho
    go_wp2_with fail
    go_end0
    exact ⟨HP.out, HO.out, .inl ⟨Hq.out, rfl⟩⟩
  · have Hq : Hid (bl ((bs s).drop a) ≠ []) := by rw [hby]; exact hq
    have t1 := neL (a := y) (l := []) hq
    have t3 : y.toList.isEmpty = false := by
      cases hh : y.toList with
      | nil => rw [ByteArray.toList_eq] at hh; exact absurd hh hq
      | cons _ _ => rfl
    have t4 : ¬ y.toList = [] := by rw [ByteArray.toList_eq]; exact hq
    have t5 : (y.toList != []) = true := by unfold bne; rw [t1]; rfl
    clear hq hby
    go_enter Tryz.func32, Tryz.ntmps32
    go_wp2_with fail
    refine HB.out.mono ?_
    rintro en w1 ⟨rfl, hp, ho⟩
    have HP := Lib.hid hp; have HO := Lib.hid ho; clear hp ho
    go_wp2_with fail
    exact ⟨rfl, HP.out, HO.out, .inr ⟨Hq.out, rfl⟩⟩
/-! ### The word that a change begins with -/
noncomputable def pOp (r : List UInt8) : Except Er (Nat × List UInt8) := if opW (wd (bl r)) = 0 then .error (bl r, 5) else .ok (opW (wd (bl r)), (bl r).drop (wd (bl r)).length)
theorem opW_no {l : List UInt8} (h : ∀ j, 1 ≤ j → j < 9 → l ≠ opT j) : opW l = 0 := by
  unfold opW
  rw [if_neg (h 1 (by omega) (by omega)), if_neg (h 2 (by omega) (by omega)), if_neg (h 3 (by omega) (by omega)), if_neg (h 4 (by omega) (by omega)), if_neg (h 5 (by omega) (by omega)), if_neg (h 6 (by omega) (by omega)), if_neg (h 7 (by omega) (by omega)), if_neg (h 8 (by omega) (by omega))]
set_option maxRecDepth 100000 in
set_option maxHeartbeats 1600000 in
theorem qop_any (b : Nat) (s : ByteArray) (a : Nat) (w : World) (h : QBx 63 w b s a) (hs : s.size ≤ 1000000) :
    Calls Tryz.prog 52 #[.pointer (some ⟨b, 0, none⟩)] w fun en w' => QEnd 63 pOp (fun o => .int .i64 ((o : Nat) : Int)) b s a w en w' := by
  have H := Lib.hid h
  have Ha := Lib.hid h.le
  clear h
  go_enter Tryz.func52, Tryz.ntmps52
  go_wp2_with fail
  go_loopw [3] (fun i wr => ∃ k : Nat, 1 ≤ k ∧ k ≤ 9 ∧ i = .int .i64 (k : Int) ∧ Hid (∃ ak, QBx 63 wr b s ak ∧ Off (fun j => j = b) w wr ∧ nb s ak = nb s a ∧ (1 < k → ak = nb s a) ∧ ∀ j, 1 ≤ j → j < k → wd (bl ((bs s).drop a)) ≠ opT j)) (fun i _ => 9 - (intOf i).toNat)
  case atStart => exact ⟨1, by omega, by omega, rfl, a, H.out, Off.refl _ _, rfl, fun h => absurd h (by omega), fun j h1 h2 => absurd h1 (by omega)⟩
  case round =>
    obtain ⟨k, hk1, hk9, rfl, hh⟩ := hrel
    obtain ⟨ak, hp, ho, hnb, hak, hno⟩ := hh.out
    clear hh
    have HP := Lib.hid hp; have HO := Lib.hid ho; have Hnb := Lib.hid hnb; have Hak := Lib.hid hak; have Hno := Lib.hid hno
    clear hp ho hnb hak hno
    by_cases hlt : k < 9
    · have hle8 : (k : Int) ≤ 8 := by omega
      have h0k : (0 : Int) ≤ (k : Int) := by omega
      have hk9I : (k : Int) < 9 := by omega
      have tk := HP.out.tbs.2.2 k hlt
      have hw1 : IntKind.i64.wrap ((k : Int) + 1) = (k : Int) + 1 := IntWalk.i64_in _ (by omega)
      have hbl : Hid (bl ((bs s).drop ak) = bl ((bs s).drop a)) := by
        show _ = _
        rw [← nb_drop HP.out.le, Hnb.out, nb_drop Ha.out]
      have HB := Lib.hid (qtakeW_any b s ak (opB k) wr HP.out hs)
      cases ht : twB s ak (opB k)
      · have Hka : Hid (twA s ak (opB k) = nb s a) := by show _ = _; unfold twA; rw [ht]; exact Hnb.out
        have Hne : Hid (wd (bl ((bs s).drop a)) ≠ opT k) := by
          intro e
          have : twB s ak (opB k) = true := by unfold twB; rw [hbl.out]; exact decide_eq_true e
          rw [ht] at this; cases this
        rw [ht] at HB
        clear ht
        go_wp2_with fail
        refine HB.out.mono ?_
        rintro en w1 ⟨rfl, hp, ho⟩
        rw [Hka.out] at hp
        have HP1 := Lib.hid hp; have HO1 := Lib.hid (HO.out.trans ho); clear hp ho
        go_wp2_with fail
        go_roundw
        case rel =>
          refine ⟨k + 1, by omega, by omega, by go_num, nb s a, HP1.out, HO1.out, nb_nb Ha.out, fun _ => rfl, fun j h1 h2 => ?_⟩
          by_cases hj : j = k
          · subst hj; exact Hne.out
          · exact Hno.out j h1 (by omega)
        case measure => simp [intOf]; omega
      · have he : wd (bl ((bs s).drop a)) = opT k := by
          unfold twB at ht
          rw [hbl.out] at ht
          exact of_decide_eq_true ht
        have Hka : Hid (twA s ak (opB k) = nb s a + (opT k).length) := by
          show _ = _
          unfold twA; rw [ht, if_pos rfl, Hnb.out]
          congr 1
        have HT : Hid (QTo pOp s a k (nb s a + (opT k).length)) := by
          have h8 := (opT_wrd (o := k) (by omega)).2
          show pOp ((bs s).drop a) = _
          unfold pOp
          rw [he, h8, if_neg (by omega), ← nb_drop Ha.out, drop_more]
        rw [ht] at HB
        clear ht he
        go_wp2_with fail
        refine HB.out.mono ?_
        rintro en w1 ⟨rfl, hp, ho⟩
        rw [Hka.out] at hp
        have HP1 := Lib.hid hp; have HO1 := Lib.hid (HO.out.trans ho); clear hp ho
        go_wp2_with fail
        go_ret
        exact .ok k _ rfl HP1.out HO1.out HT.out
    · obtain rfl : k = 9 := by omega
      have HT : Hid (QNo pOp s a (nb s a) 5) := by
        refine ⟨by decide, ?_⟩
        unfold pOp
        rw [if_pos (opW_no fun j h1 h2 => Hno.out j h1 h2), nb_drop Ha.out]
      have hpa := HP.out
      rw [Hak.out (by omega)] at hpa
      have HP1 := Lib.hid hpa
      clear hpa
      go_wp2_with fail
      exact ⟨rfl, .no _ 5 rfl HP1.out HO.out HT.out⟩
end Go.Proofs.YtebldfnocpcddaaGreatDoor

/-
  The program's parser of changes (layer 10): a column.
-/
namespace Go.Proofs.YtebldfnocpcddaaGreatDoor
open Go.RowKit

def nullB : ByteArray := ⟨#[110, 117, 108, 108]⟩
def defB : ByteArray := ⟨#[100, 101, 102, 97, 117, 108, 116]⟩
theorem pNull_tw {s : ByteArray} {a : Nat} (ha : a ≤ s.size) : pNull ((bs s).drop a) = (twB s a nullB, (bs s).drop (twA s a nullB)) := by
  unfold pNull
  cases h : twB s a nullB with
  | true =>
    have e : wd (bl ((bs s).drop a)) = nullT := by have := of_decide_eq_true h; exact this
    rw [if_pos e]
    unfold twA
    rw [h, if_pos rfl, ← nb_drop ha, drop_more]; rfl
  | false =>
    have e : ¬ wd (bl ((bs s).drop a)) = nullT := by have := of_decide_eq_false h; exact this
    rw [if_neg e]
    unfold twA
    rw [h, if_neg (by decide), nb_drop ha]
theorem pDef_no {s : ByteArray} {a : Nat} (ha : a ≤ s.size) (h : twB s a defB = false) : QTo pDef s a (0, 0, []) (twA s a defB) := by
  have e : ¬ wd (bl ((bs s).drop a)) = defT := by have := of_decide_eq_false h; exact this
  show pDef ((bs s).drop a) = _
  unfold pDef
  rw [if_neg e]
  unfold twA
  rw [h, if_neg (by decide), nb_drop ha]
theorem pDef_eq {s : ByteArray} {a : Nat} (ha : a ≤ s.size) (h : twB s a defB = true) : pDef ((bs s).drop a) = pVal false ((bs s).drop (twA s a defB)) := by
  have e : wd (bl ((bs s).drop a)) = defT := by have := of_decide_eq_true h; exact this
  unfold pDef
  rw [if_pos e]
  unfold twA
  rw [h, if_pos rfl, ← nb_drop ha, drop_more]; rfl
/-- a column out of its pieces -/
def colOf (n : List UInt8) (t : Int × Int) (nl : Bool) (v : Val) : Cb := ⟨0, strB n, t.1, t.2, nl, v.1, v.2.1, strB v.2.2⟩
theorem pCol_no1 {s : ByteArray} {a a1 e : Nat} (h : QNo pName s a a1 e) : QNo pCol s a a1 e := QNo.bind h
theorem pCol_no2 {s : ByteArray} {a a1 a2 e : Nat} {n : List UInt8} (h : QTo pName s a n a1) (h2 : QNo pKind s a1 a2 e) : QNo pCol s a a2 e := QTo.thenNo h (QNo.bind h2)
theorem pCol_eq {s : ByteArray} {a a1 a2 : Nat} {n : List UInt8} {t : Int × Int} (h : QTo pName s a n a1) (h2 : QTo pKind s a1 t a2) (ha : a2 ≤ s.size) :
    pCol ((bs s).drop a) = (pDef ((bs s).drop (twA s a2 nullB))).bind fun v => .ok (colOf n t (twB s a2 nullB) v.1, v.2) := by
  unfold pCol
  rw [h]
  show (pKind ((bs s).drop a1)).bind _ = _
  rw [h2]
  show (pDef (pNull ((bs s).drop a2)).2).bind _ = _
  rw [pNull_tw ha]; rfl
theorem pCol_to {s : ByteArray} {a a1 a2 a5 : Nat} {n : List UInt8} {t : Int × Int} {v : Val} (h : QTo pName s a n a1) (h2 : QTo pKind s a1 t a2) (ha : a2 ≤ s.size) (h3 : QTo pDef s (twA s a2 nullB) v a5) : QTo pCol s a (colOf n t (twB s a2 nullB) v) a5 := by
  show pCol _ = _
  rw [pCol_eq h h2 ha, h3]; rfl
theorem pCol_no3 {s : ByteArray} {a a1 a2 a5 e : Nat} {n : List UInt8} {t : Int × Int} (h : QTo pName s a n a1) (h2 : QTo pKind s a1 t a2) (ha : a2 ≤ s.size) (h3 : QNo pDef s (twA s a2 nullB) a5 e) : QNo pCol s a a5 e := by
  refine ⟨h3.1, ?_⟩
  rw [pCol_eq h h2 ha, h3.2]; rfl
abbrev zC : List Value := [.int .i64 0, .string ⟨#[]⟩, .int .i64 0, .int .i64 0, .bool false, .int .i64 0, .int .i64 0, .string ⟨#[]⟩]
set_option maxRecDepth 100000 in
set_option maxHeartbeats 3200000 in
theorem qcolumn_any (b : Nat) (s : ByteArray) (a : Nat) (w : World) (h : QBx 63 w b s a) (hs : s.size ≤ 1000000) :
    Calls Tryz.prog 56 #[.pointer (some ⟨b, 0, none⟩)] w fun en w' => QEnd 63 pCol (fun c => CV c) b s a w en w' := by
  have hlt := h.lt
  have hne : b ≠ w.heap.size := by omega
  have hnj : b ≠ w.heap.size + 1 := by omega
  have hrj : w.heap.size ≠ w.heap.size + 1 := by omega
  obtain ⟨wa, hwa⟩ : ∃ wa, (w.alloc (.cells zC.toArray 56)).alloc (.cells zC.toArray 56) = wa := ⟨_, rfl⟩
  have hba : Below w.heap.size w wa := by rw [← hwa]; exact ((Below.refl _ _).alloc (Nat.le_refl _) _).alloc (by simp) _
  have HR : Hid (Bk 56 wa w.heap.size zC) := by rw [← hwa]; exact (Bk.new w zC 56).below ((Below.refl _ _).alloc (Nat.le_refl _) _)
  have HJ : Hid (Bk 56 wa (w.heap.size + 1) zC) := by
    have := Bk.new (w.alloc (.cells zC.toArray 56)) zC 56
    rw [hwa] at this
    show Bk _ _ _ _
    simpa using this
  have Hwa := Lib.hid hwa; clear hwa
  have HO := Lib.hid (Off.of_below (S := fun k => k = b) hba)
  have HP := Lib.hid (h.below hba); have H0 := Lib.hid h; clear hba h hlt
  go_enter Tryz.func56, Tryz.ntmps56
  go_wp2_with fail
  rw [Hwa.out]
  refine (qname_any b s a _ HP.out hs).mono ?_
  rintro en w1 ⟨ho, ⟨n, a1, rfl, hp, hto⟩ | ⟨a1, e1, rfl, hp, hno⟩⟩
  case inr =>
    have HP1 := Lib.hid hp; have HO1 := Lib.hid (HO.out.trans ho); have HN := Lib.hid (pCol_no1 hno)
    clear hp ho hno
    go_wp2_with fail
    exact ⟨rfl, .no _ _ rfl HP1.out HO1.out HN.out⟩
  have HP1 := Lib.hid hp; have HO1 := Lib.hid (HO.out.trans ho); have HR1 := Lib.hid (HR.out.off ho (fun h => hne h.symm)); have HJ1 := Lib.hid (HJ.out.off ho (fun h => hnj h.symm)); have HT1 := Lib.hid hto
  clear hp ho hto
  have c1 := HJ1.out.at 1 _ rfl
  have q1 := HJ1.out.thaw 1
  go_wp2_with fail
  clear c1 q1
  have HJ2 := Lib.hid (HJ1.out.set 1 (.string (strB n)))
  have HR2 := Lib.hid (HR1.out.put (w.heap.size + 1) 1 (.string (strB n)) (fun e => hrj e.symm))
  have HO2 := Lib.hid (HO1.out.put (w.heap.size + 1) 1 (.string (strB n)) (by omega))
  have HP2 := Lib.hid (H0.out.fin HP1.out (put_ne w1 (w.heap.size + 1) 1 (.string (strB n)) b hnj) HO2.out)
  refine (qkind_any b s a1 _ HP2.out hs).mono ?_
  rintro en w3 ⟨ho, ⟨t, a2, rfl, hp, hto⟩ | ⟨a2, e1, rfl, hp, hno⟩⟩
  case inr =>
    have HP3 := Lib.hid hp; have HO3 := Lib.hid (HO2.out.trans ho); have HN := Lib.hid (pCol_no2 HT1.out hno)
    clear hp ho hno
    go_wp2_with fail
    exact ⟨rfl, .no _ _ rfl HP3.out HO3.out HN.out⟩
  obtain ⟨tk, tm⟩ := t
  have HP3 := Lib.hid hp; have HO3 := Lib.hid (HO2.out.trans ho); have HR3 := Lib.hid (HR2.out.off ho (fun h => hne h.symm)); have HJ3 := Lib.hid (HJ2.out.off ho (fun h => hnj h.symm)); have HT3 := Lib.hid hto
  clear hp ho hto
  have c2 := HJ3.out.at 2 _ rfl
  have c3 := HJ3.out.at 3 _ rfl
  have q2 := HJ3.out.thaw 2
  have q3 := HJ3.out.thaw 3
  go_wp2_with fail
  clear c2 c3 q2 q3
  have HJ4 := Lib.hid ((HJ3.out.set 2 (.int .i64 tk)).set 3 (.int .i64 tm))
  have HR4 := Lib.hid ((HR3.out.put (w.heap.size + 1) 2 (.int .i64 tk) (fun e => hrj e.symm)).put (w.heap.size + 1) 3 (.int .i64 tm) (fun e => hrj e.symm))
  have HO4 := Lib.hid ((HO3.out.put (w.heap.size + 1) 2 (.int .i64 tk) (by omega)).put (w.heap.size + 1) 3 (.int .i64 tm) (by omega))
  have HP4 := Lib.hid (H0.out.fin HP3.out (by rw [put_ne _ _ _ _ _ hnj, put_ne _ _ _ _ _ hnj]) HO4.out)
  refine (qtakeW_any b s a2 nullB _ HP4.out hs).mono ?_
  rintro en w5 ⟨rfl, hp, ho⟩
  have HP5 := Lib.hid hp; have HO5 := Lib.hid (HO4.out.trans ho); have HR5 := Lib.hid (HR4.out.off ho (fun h => hne h.symm)); have HJ5 := Lib.hid (HJ4.out.off ho (fun h => hnj h.symm))
  clear hp ho
  have Hal := Lib.hid HP3.out.le
  obtain ⟨nl, hnl⟩ : ∃ nl, twB s a2 nullB = nl := ⟨_, rfl⟩
  have Hnl := Lib.hid hnl
  rw [hnl]
  clear hnl
  have c4 := HJ5.out.at 4 _ rfl
  have q4 := HJ5.out.thaw 4
  go_wp2_with fail
  clear c4 q4
  have HJ6 := Lib.hid (HJ5.out.set 4 (.bool nl))
  have HR6 := Lib.hid (HR5.out.put (w.heap.size + 1) 4 (.bool nl) (fun e => hrj e.symm))
  have HO6 := Lib.hid (HO5.out.put (w.heap.size + 1) 4 (.bool nl) (by omega))
  have HP6 := Lib.hid (H0.out.fin HP5.out (put_ne w5 (w.heap.size + 1) 4 (.bool nl) b hnj) HO6.out)
  refine (qtakeW_any b s _ defB _ HP6.out hs).mono ?_
  rintro en w7 ⟨rfl, hp, ho⟩
  have HP7 := Lib.hid hp; have HO7 := Lib.hid (HO6.out.trans ho); have HR7 := Lib.hid (HR6.out.off ho (fun h => hne h.symm)); have HJ7 := Lib.hid (HJ6.out.off ho (fun h => hnj h.symm))
  clear hp ho
  cases hdf : twB s (twA s a2 nullB) defB
  · have HT : Hid (QTo pCol s a (colOf n (tk, tm) nl (0, 0, [])) (twA s (twA s a2 nullB) defB)) := by
      have := pCol_to HT1.out HT3.out Hal.out (pDef_no HP5.out.le hdf)
      rwa [Hnl.out] at this
    clear hdf
    have d0 := HJ7.out.at 0 _ rfl
    have d1 := HJ7.out.at 1 _ rfl
    have d2 := HJ7.out.at 2 _ rfl
    have d3 := HJ7.out.at 3 _ rfl
    have d4 := HJ7.out.at 4 _ rfl
    have d5 := HJ7.out.at 5 _ rfl
    have d6 := HJ7.out.at 6 _ rfl
    have d7 := HJ7.out.at 7 _ rfl
    have r0 := HR7.out.at 0 _ rfl
    have r1 := HR7.out.at 1 _ rfl
    have r2 := HR7.out.at 2 _ rfl
    have r3 := HR7.out.at 3 _ rfl
    have r4 := HR7.out.at 4 _ rfl
    have r5 := HR7.out.at 5 _ rfl
    have r6 := HR7.out.at 6 _ rfl
    have r7 := HR7.out.at 7 _ rfl
    have p0 := HR7.out.thaw 0
    have p1 := HR7.out.thaw 1
    have p2 := HR7.out.thaw 2
    have p3 := HR7.out.thaw 3
    have p4 := HR7.out.thaw 4
    have p5 := HR7.out.thaw 5
    have p6 := HR7.out.thaw 6
    have p7 := HR7.out.thaw 7
    go_wp2_with fail
    refine bodyPost_ret (results_kC rfl _ rfl ((((((((HR7.out.set 0 (.int .i64 0)).set 1 (.string (strB n))).set 2 (.int .i64 tk)).set 3 (.int .i64 tm)).set 4 (.bool nl)).set 5 (.int .i64 0)).set 6 (.int .i64 0)).set 7 (.string ⟨#[]⟩))) rfl ?_
    have ho := ((((((((HO7.out.put w.heap.size 0 (.int .i64 0) (Nat.le_refl _)).put w.heap.size 1 (.string (strB n)) (Nat.le_refl _)).put w.heap.size 2 (.int .i64 tk) (Nat.le_refl _)).put w.heap.size 3 (.int .i64 tm) (Nat.le_refl _)).put w.heap.size 4 (.bool nl) (Nat.le_refl _)).put w.heap.size 5 (.int .i64 0) (Nat.le_refl _)).put w.heap.size 6 (.int .i64 0) (Nat.le_refl _)).put w.heap.size 7 (.string ⟨#[]⟩) (Nat.le_refl _))
    exact .ok (colOf n (tk, tm) nl (0, 0, [])) _ rfl (H0.out.fin HP7.out (by rw [put_ne _ _ _ _ _ hne, put_ne _ _ _ _ _ hne, put_ne _ _ _ _ _ hne, put_ne _ _ _ _ _ hne, put_ne _ _ _ _ _ hne, put_ne _ _ _ _ _ hne, put_ne _ _ _ _ _ hne, put_ne _ _ _ _ _ hne]) ho) ho HT.out
  · have He := Lib.hid (pDef_eq HP5.out.le hdf)
    clear hdf
    go_wp2_with fail
    refine (qnotnull_any b s _ _ HP7.out hs).mono ?_
    rintro en w8 ⟨ho, ⟨⟨vk, vn, vt⟩, a5, rfl, hp, hto⟩ | ⟨a5, e1, rfl, hp, hno⟩⟩
    case inr =>
      have HP8 := Lib.hid hp; have HO8 := Lib.hid (HO7.out.trans ho)
      have HN := Lib.hid (pCol_no3 HT1.out HT3.out Hal.out (show QNo pDef s (twA s a2 nullB) a5 e1 from ⟨hno.1, by rw [He.out]; exact hno.2⟩))
      clear hp ho hno
      go_wp2_with fail
      exact ⟨rfl, .no _ _ rfl HP8.out HO8.out HN.out⟩
    have HT : Hid (QTo pCol s a (colOf n (tk, tm) nl (vk, vn, vt)) a5) := by
      have := pCol_to HT1.out HT3.out Hal.out (show QTo pDef s (twA s a2 nullB) (vk, vn, vt) a5 by show pDef _ = _; rw [He.out]; exact hto)
      rwa [Hnl.out] at this
    have HP8 := Lib.hid hp; have HO8 := Lib.hid (HO7.out.trans ho); have HR8 := Lib.hid (HR7.out.off ho (fun h => hne h.symm)); have HJ8 := Lib.hid (HJ7.out.off ho (fun h => hnj h.symm))
    clear hp ho hto
    have c5 := HJ8.out.at 5 _ rfl
    have c6 := HJ8.out.at 6 _ rfl
    have c7 := HJ8.out.at 7 _ rfl
    have q5 := HJ8.out.thaw 5
    have q6 := HJ8.out.thaw 6
    have q7 := HJ8.out.thaw 7
    have d0 := HJ8.out.at 0 _ rfl
    have d1 := HJ8.out.at 1 _ rfl
    have d2 := HJ8.out.at 2 _ rfl
    have d3 := HJ8.out.at 3 _ rfl
    have d4 := HJ8.out.at 4 _ rfl
    have r0 := HR8.out.at 0 _ rfl
    have r1 := HR8.out.at 1 _ rfl
    have r2 := HR8.out.at 2 _ rfl
    have r3 := HR8.out.at 3 _ rfl
    have r4 := HR8.out.at 4 _ rfl
    have r5 := HR8.out.at 5 _ rfl
    have r6 := HR8.out.at 6 _ rfl
    have r7 := HR8.out.at 7 _ rfl
    have p0 := HR8.out.thaw 0
    have p1 := HR8.out.thaw 1
    have p2 := HR8.out.thaw 2
    have p3 := HR8.out.thaw 3
    have p4 := HR8.out.thaw 4
    have p5 := HR8.out.thaw 5
    have p6 := HR8.out.thaw 6
    have p7 := HR8.out.thaw 7
    have hjr : w.heap.size + 1 ≠ w.heap.size := fun e => hrj e.symm
    go_wp2_with fail
    refine bodyPost_ret (results_kC rfl _ rfl (((((((((((HR8.out.put (w.heap.size + 1) 5 (.int .i64 vk) (fun e => hrj e.symm)).put (w.heap.size + 1) 6 (.int .i64 vn) (fun e => hrj e.symm)).put (w.heap.size + 1) 7 (.string (strB vt)) (fun e => hrj e.symm)).set 0 (.int .i64 0)).set 1 (.string (strB n))).set 2 (.int .i64 tk)).set 3 (.int .i64 tm)).set 4 (.bool nl)).set 5 (.int .i64 vk)).set 6 (.int .i64 vn)).set 7 (.string (strB vt)))) rfl ?_
    have ho := (((((((((((HO8.out.put (w.heap.size + 1) 5 (.int .i64 vk) (by omega)).put (w.heap.size + 1) 6 (.int .i64 vn) (by omega)).put (w.heap.size + 1) 7 (.string (strB vt)) (by omega)).put w.heap.size 0 (.int .i64 0) (Nat.le_refl _)).put w.heap.size 1 (.string (strB n)) (Nat.le_refl _)).put w.heap.size 2 (.int .i64 tk) (Nat.le_refl _)).put w.heap.size 3 (.int .i64 tm) (Nat.le_refl _)).put w.heap.size 4 (.bool nl) (Nat.le_refl _)).put w.heap.size 5 (.int .i64 vk) (Nat.le_refl _)).put w.heap.size 6 (.int .i64 vn) (Nat.le_refl _)).put w.heap.size 7 (.string (strB vt)) (Nat.le_refl _))
    exact .ok (colOf n (tk, tm) nl (vk, vn, vt)) _ rfl (H0.out.fin HP8.out (by rw [put_ne _ _ _ _ _ hne, put_ne _ _ _ _ _ hne, put_ne _ _ _ _ _ hne, put_ne _ _ _ _ _ hne, put_ne _ _ _ _ _ hne, put_ne _ _ _ _ _ hne, put_ne _ _ _ _ _ hne, put_ne _ _ _ _ _ hne, put_ne _ _ _ _ _ hnj, put_ne _ _ _ _ _ hnj, put_ne _ _ _ _ _ hnj]) ho) ho HT.out
end Go.Proofs.YtebldfnocpcddaaGreatDoor

/-
  The program's parser of changes (layer 10): columns between brackets.
-/
namespace Go.Proofs.YtebldfnocpcddaaGreatDoor
open Go.RowKit

def QCols (b : Nat) (s : ByteArray) (a : Nat) (w : World) (en : Ending) (w' : World) : Prop :=
  Off (fun k => k = b) w w' ∧ ((∃ (v : Value) (l : List Cb) (a' : Nat), en = .returned v ∧ OwnC w' w.heap.size v l ∧ QBx 63 w' b s a' ∧ QTo pColsP s a l a' ∧ l.length ≤ 10) ∨ (∃ a' e, en = pan e ∧ QBx 63 w' b s a' ∧ QNo pColsP s a a' e))
set_option maxRecDepth 100000 in
set_option maxHeartbeats 3200000 in
theorem qcolumns_any (b : Nat) (s : ByteArray) (a : Nat) (w : World) (h : QBx 63 w b s a) (hs : s.size ≤ 1000000) :
    Calls Tryz.prog 54 #[.pointer (some ⟨b, 0, none⟩)] w fun en w' => QCols b s a w en w' := by
  have hlt := h.lt
  have H0 := Lib.hid h; clear h
  go_enter Tryz.func54, Tryz.ntmps54
  go_wp2_with fail
  refine (qmark_any b s a 40 _ H0.out hs).mono ?_
  rintro en w1 ⟨ho, ⟨_, a1, rfl, hp, hto⟩ | ⟨a1, e1, rfl, hp, hno⟩⟩
  case inr =>
    have HP1 := Lib.hid hp; have HO1 := Lib.hid ho; have HN := Lib.hid (pColsP_no1 hno)
    clear hp ho hno
    go_wp2_with fail
    exact ⟨rfl, HO1.out, .inr ⟨_, _, rfl, HP1.out, HN.out⟩⟩
  have HP1 := Lib.hid hp; have HO1 := Lib.hid ho; have HT1 : Hid (QTo (un (pSign 40)) s a () a1) := hto
  clear hp ho hto
  go_wp2_with fail
  refine (qcolumn_any b s a1 _ HP1.out hs).mono ?_
  rintro en w2 ⟨ho, ⟨c, a2, rfl, hp, hto⟩ | ⟨a2, e1, rfl, hp, hno⟩⟩
  case inr =>
    have HP2 := Lib.hid hp; have HO2 := Lib.hid (HO1.out.trans ho); have HN := Lib.hid (pColsP_no2 HT1.out (CI.no (l := []) rfl (by decide) hno))
    clear hp ho hno
    go_wp2_with fail
    exact ⟨rfl, HO2.out, .inr ⟨_, _, rfl, HP2.out, HN.out⟩⟩
  have hci : CI s a1 [c] a2 := CI.of (l := []) rfl (by decide) hto
  have HP2 := Lib.hid hp; have HO2 := Lib.hid (HO1.out.trans ho); have HC := Lib.hid hci
  clear hp ho hto hci
  obtain ⟨w3, hw3⟩ : ∃ w3, w2.alloc (.cells #[.int .i64 c.id, .string c.nm, .int .i64 c.tk, .int .i64 c.tm, .bool c.nl, .int .i64 c.dk, .int .i64 c.dn, .string c.ds] 56) = w3 := ⟨_, rfl⟩
  have HOw : Hid (OwnC w3 w.heap.size (.slice (some ⟨w2.heap.size, 0, none⟩) 1 1) [c]) := by
    rw [← hw3]
    exact OwnR.mono (OwnR.box 56 8 fC lenC w2 c) HO2.out.size
  have HP3 : Hid (QBx 63 w3 b s a2) := by rw [← hw3]; exact HP2.out.below ((Below.refl _ _).alloc (Nat.le_refl _) _)
  have HO3 : Hid (Off (fun k => k = b) w w3) := by rw [← hw3]; exact HO2.out.new _
  have Hw3 := Lib.hid hw3
  clear hw3
  go_wp2_with fail
  rw [Hw3.out]
  go_loopg [3] 9 (fun g v wr => ∃ (l : List Cb) (A : Option Addr) (cp ak : Nat), l.length + g = 10 ∧ v = .slice A l.length cp ∧ Hid (1 ≤ l.length) ∧ Hid (OwnC wr w.heap.size (.slice A l.length cp) l) ∧ Hid (QBx 63 wr b s ak) ∧ Hid (Off (fun k => k = b) w wr) ∧ Hid (CI s a1 l ak))
  case atStart => exact ⟨[c], _, _, a2, rfl, rfl, by show 1 ≤ 1; omega, HOw.out, HP3.out, HO3.out, HC.out⟩
  case round =>
    obtain ⟨l, A, cp, ak, hg, rfl, hl1, hOw, hP, hO, hC⟩ := hrel
    cases ht : tmB s ak 44
    · -- no comma
      have HB := Lib.hid (qtakeM_any b s ak 44 wr hP.out hs)
      rw [ht] at HB
      have HT2 := Lib.hid (hC.out.stop hP.out.le ht)
      clear ht
      have hlen : l.length ≤ 10 := by omega
      have Hlen := Lib.hid hlen
      have hneb : ∀ k, (Value.slice A l.length cp).ownBlock = some k → k ≠ b := fun k hk e => by have := (hOw.out.lt k hk).1; omega
      have Hneb := Lib.hid hneb
      clear hneb hlen hg
      go_wp2_with fail
      refine HB.out.mono ?_
      rintro en w4 ⟨rfl, hp, ho⟩
      have HP4 := Lib.hid hp; have HO4 := Lib.hid (hO.out.trans ho); have HOw4 := Lib.hid (hOw.out.off ho Hneb.out)
      clear hp ho
      go_wp2_with fail
      refine (qmark_any b s _ 41 _ HP4.out hs).mono ?_
      rintro en w5 ⟨ho, ⟨_, a5, rfl, hp, hto⟩ | ⟨a5, e1, rfl, hp, hno⟩⟩
      case inr =>
        have HP5 := Lib.hid hp; have HO5 := Lib.hid (HO4.out.trans ho); have HN := Lib.hid (pColsP_no3 HT1.out HT2.out hno)
        clear hp ho hno
        go_wp2_with fail
        exact ⟨rfl, HO5.out, .inr ⟨_, _, rfl, HP5.out, HN.out⟩⟩
      have HP5 := Lib.hid hp; have HO5 := Lib.hid (HO4.out.trans ho); have HOw5 := Lib.hid (HOw4.out.off ho Hneb.out); have HN := Lib.hid (pColsP_to HT1.out HT2.out hto)
      clear hp ho hto
      go_wp2_with fail
      go_ret
      exact ⟨HO5.out, .inl ⟨_, l, a5, rfl, HOw5.out, HP5.out, HN.out, Hlen.out⟩⟩
    · have HB := Lib.hid (qtakeM_any b s ak 44 wr hP.out hs)
      rw [ht] at HB
      have HT2 := Lib.hid (hC.out.comma hP.out.le ht)
      have Hle := Lib.hid (tmA_le (c := 44) hP.out.le)
      clear ht
      have hneb : ∀ k, (Value.slice A l.length cp).ownBlock = some k → k ≠ b := fun k hk e => by have := (hOw.out.lt k hk).1; omega
      have Hneb := Lib.hid hneb
      clear hneb
      by_cases h10 : l.length = 10
      · have hn1 : ((l.length : Int) == 10) = true := by simp [h10]
        have HN := Lib.hid (pColsP_no2 HT1.out (CI.full HT2.out h10 Hle.out))
        clear h10 hg
        go_wp2_with fail
        refine HB.out.mono ?_
        rintro en w4 ⟨rfl, hp, ho⟩
        have HP4 := Lib.hid hp; have HO4 := Lib.hid (hO.out.trans ho)
        clear hp ho
        go_wp2_with fail
        refine (qskip_any b s _ _ HP4.out hs).mono ?_
        rintro en w5 ⟨rfl, hp, ho⟩
        have HP5 := Lib.hid hp; have HO5 := Lib.hid (HO4.out.trans ho)
        clear hp ho
        go_wp2_with fail
        exact ⟨rfl, HO5.out, .inr ⟨_, 3, rfl, HP5.out, HN.out⟩⟩
      · have hn1 : ((l.length : Int) == 10) = false := by simp; omega
        have Hl : Hid (l.length < 10) := by show _ < _; omega
        obtain ⟨g, rfl⟩ : ∃ g, gk = g + 1 := ⟨gk - 1, by omega⟩
        have Hg : Hid (l.length + 1 + g = 10) := by show _ = _; omega
        clear h10 hg
        go_wp2_with fail
        refine HB.out.mono ?_
        rintro en w4 ⟨rfl, hp, ho⟩
        have HP4 := Lib.hid hp; have HO4 := Lib.hid (hO.out.trans ho); have HOw4 := Lib.hid (hOw.out.off ho Hneb.out)
        clear hp ho
        go_wp2_with fail
        refine (qcolumn_any b s _ _ HP4.out hs).mono ?_
        rintro en w5 ⟨ho, ⟨c', a5, rfl, hp, hto⟩ | ⟨a5, e1, rfl, hp, hno⟩⟩
        case inr =>
          have HP5 := Lib.hid hp; have HO5 := Lib.hid (HO4.out.trans ho); have HN := Lib.hid (pColsP_no2 HT1.out (CI.no HT2.out Hl.out hno))
          clear hp ho hno
          go_wp2_with fail
          exact ⟨rfl, HO5.out, .inr ⟨_, _, rfl, HP5.out, HN.out⟩⟩
        have HP5 := Lib.hid hp; have HO5 := Lib.hid (HO4.out.trans ho); have HOw5 := Lib.hid (HOw4.out.off ho Hneb.out); have HC5 := Lib.hid (CI.of HT2.out Hl.out hto)
        clear hp ho hto
        go_wp2_with (at_builtin; refine wpList_append_rows Tryz.underlying26 infoC rfl (by decide) (by decide) lenC oneC rfl _ _ rfl w.heap.size _ l (some ⟨w5.heap.size, 0, none⟩) 1 1 [c'] (World.ownsRow.alloc HOw5.out _) (by simp [Act.eval]) (by simp [Act.eval]) rfl (fun h => by cases h) (rowat_new (m := 8) (f := fC) w5 c' 56) (by have := Hl.out; simp; omega) (by have := HO5.out.size; simp; omega) ?_; intro v1 w6 ho6 hg6; obtain ⟨A2, k2, rfl, _, _, _⟩ := ho6.form)
        have hof6 : Off (fun x => (Value.slice A l.length cp).ownBlock = some x) w5 w6 := Off.behind (by go_grown) (Off.of_grown hg6)
        have HO6 : Hid (Off (fun k => k = b) w w6) := by
          refine ⟨hof6.os.trans HO5.out.os, hof6.tape.trans HO5.out.tape, hof6.output.trans HO5.out.output, Nat.le_trans HO5.out.size hof6.size, fun k hk hn => ?_⟩
          exact (hof6.block k (Nat.lt_of_lt_of_le hk HO5.out.size) (fun hb => by have := (HOw5.out.lt k hb).1; omega)).trans (HO5.out.block k hk hn)
        have HP6 : Hid (QBx 63 w6 b s a5) := H0.out.fin HP5.out (hof6.block b HP5.out.lt (fun hb => Hneb.out b hb rfl)) HO6.out
        have HOw6 := Lib.hid ho6
        clear hof6 ho6 hg6
        have hle : (l ++ [c']).length = l.length + 1 := by simp
        rw [hle] at HOw6
        go_wp2_with fail
        go_roundg g
        case measure => omega
        case rel => exact ⟨l ++ [c'], A2, k2, a5, by rw [hle]; exact Hg.out, by rw [hle], by show 1 ≤ _; rw [hle]; omega, by show OwnC _ _ _ _; rw [hle]; exact HOw6.out, HP6.out, HO6.out, HC5.out⟩
end Go.Proofs.YtebldfnocpcddaaGreatDoor
