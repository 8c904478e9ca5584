/-
  Texts that the proof needs, one behind the other: DtxQ7C, DtxQ8C.
-/
import Derived.BigRegion
import Derived.Defers
import Derived.Recover
import Derived.Test.YtebldfnocpcddaaGreatDoorPart16
import Derived.Test.YtebldfnocpcddaaGreatDoorPart27

/-
  The program's parser of changes (layer 10): a change.
-/
namespace Go.Proofs.YtebldfnocpcddaaGreatDoor
open Go.RowKit

theorem opW_le (l : List UInt8) : opW l ≤ 8 := by
  unfold opW
  repeat' split
  all_goals omega
theorem pOp_ok {s : ByteArray} {a o a1 : Nat} (h : QTo pOp s a o a1) : 1 ≤ o ∧ o ≤ 8 ∧ pChange ((bs s).drop a) = (pName ((bs s).drop a1)).bind fun t => pRest o t.1 t.2 := by
  have h2 : pOp ((bs s).drop a) = _ := h
  unfold pOp at h2
  split at h2
  · cases h2
  · rename_i hn
    have e1 : opW (wd (bl ((bs s).drop a))) = o := congrArg (fun q : Except Er (Nat × List UInt8) => match q with | .ok x => x.1 | .error _ => 0) h2
    have e2 : (bl ((bs s).drop a)).drop (wd (bl ((bs s).drop a))).length = (bs s).drop a1 := congrArg (fun q : Except Er (Nat × List UInt8) => match q with | .ok x => x.2 | .error _ => []) h2
    have h8 := opW_le (wd (bl ((bs s).drop a)))
    refine ⟨by omega, by omega, ?_⟩
    unfold pChange
    rw [if_neg hn, e1, e2]
theorem pOp_no {s : ByteArray} {a a1 e : Nat} (h : QNo pOp s a a1 e) : QNo pChange s a a1 e := by
  refine ⟨h.1, ?_⟩
  have h2 := h.2
  unfold pOp at h2
  split at h2
  · rename_i hn
    unfold pChange
    rw [if_pos hn]
    exact congrArg (fun q : Except Er (Nat × List UInt8) => match q with | .ok _ => (.error ([], 0) : Except Er (Dp × List UInt8)) | .error x => .error x) h2
  · cases h2
theorem pRest_1 (tb r : List UInt8) : pRest 1 tb r = (pColsP r).bind fun c => (pWord keyT c.2).bind fun r => (pName r).bind fun k => .ok ({ dp0 1 tb with cols := c.1, key := strB k.1 }, k.2) := by
  unfold pRest pColsP
  rw [if_pos rfl]
  cases pSign 40 r with
  | error e => rfl
  | ok r =>
    show (pCols 10 [] r).bind _ = ((pCols 10 [] r).bind _).bind _
    cases pCols 10 [] r with
    | error e => rfl
    | ok c =>
      show (pSign 41 c.2).bind _ = ((pSign 41 c.2).bind _).bind _
      cases pSign 41 c.2 with
      | error e => rfl
      | ok q => rfl
theorem pRest_2 (tb r : List UInt8) : pRest 2 tb r = .ok (dp0 2 tb, r) := rfl
theorem pRest_3 (tb r : List UInt8) : pRest 3 tb r = (pWord toT r).bind fun r => (pName r).bind fun n => .ok ({ dp0 3 tb with «to» := strB n.1 }, n.2) := rfl
theorem pRest_4 (tb r : List UInt8) : pRest 4 tb r = (pCol r).bind fun c => .ok ({ dp0 4 tb with co := c.1.nm, tk := c.1.tk, tm := c.1.tm, nl := c.1.nl, dk := c.1.dk, dn := c.1.dn, ds := c.1.ds }, c.2) := rfl
theorem pRest_5 (tb r : List UInt8) : pRest 5 tb r = (pName r).bind fun n => .ok ({ dp0 5 tb with co := strB n.1 }, n.2) := rfl
theorem pRest_6 (tb r : List UInt8) : pRest 6 tb r = (pName r).bind fun n => (pWord toT n.2).bind fun r => (pName r).bind fun m => .ok ({ dp0 6 tb with co := strB n.1, «to» := strB m.1 }, m.2) := rfl
theorem pRest_7 (tb r : List UInt8) : pRest 7 tb r = (pName r).bind fun n => (pKind n.2).bind fun t => .ok ({ dp0 7 tb with co := strB n.1, tk := t.1.1, tm := t.1.2 }, t.2) := rfl
theorem pRest_8 (tb r : List UInt8) : pRest 8 tb r = (pName r).bind fun n => (pVal true n.2).bind fun v => .ok ({ dp0 8 tb with co := strB n.1, dk := v.1.1, dn := v.1.2.1, ds := strB v.1.2.2 }, v.2) := rfl
/-- how a change ends -/
def QChg (b : Nat) (s : ByteArray) (a : Nat) (w : World) (en : Ending) (w' : World) : Prop :=
  Off (fun k => k = b) w w' ∧ ((∃ (d : Db) (a' : Nat), en = .returned (DV d) ∧ DdlAt w' w'.heap.size d ∧ QBx 63 w' b s a' ∧ QTo pChange s a d.p a' ∧ d.p.cols.length ≤ 10 ∧ ∀ p : Addr, d.A = some p → w.heap.size ≤ p.block) ∨ (∃ a' e, en = pan e ∧ QBx 63 w' b s a' ∧ QNo pChange s a a' e))
set_option maxRecDepth 100000 in
set_option maxHeartbeats 12800000 in
theorem qchange_any (b : Nat) (s : ByteArray) (a : Nat) (w : World) (h : QBx 63 w b s a) (hs : s.size ≤ 1000000) :
    Calls Tryz.prog 31 #[.pointer (some ⟨b, 0, none⟩)] w fun en w' => QChg b s a w en w' := by
  have hlt := h.lt
  have hne : b ≠ w.heap.size := by omega
  obtain ⟨wa, hwa⟩ : ∃ wa, w.alloc (.cells [(.int .i64 0), (.string ⟨#[]⟩), (.string ⟨#[]⟩), (.string ⟨#[]⟩), (.string ⟨#[]⟩), (.int .i64 0), (.int .i64 0), (.bool false), (.int .i64 0), (.int .i64 0), (.string ⟨#[]⟩), (.slice none 0 0)].toArray 28) = wa := ⟨_, rfl⟩
  have hba : Below w.heap.size w wa := by rw [← hwa]; exact (Below.refl _ _).alloc (Nat.le_refl _) _
  have HR0 : Hid (Bk 28 wa w.heap.size [(.int .i64 0), (.string ⟨#[]⟩), (.string ⟨#[]⟩), (.string ⟨#[]⟩), (.string ⟨#[]⟩), (.int .i64 0), (.int .i64 0), (.bool false), (.int .i64 0), (.int .i64 0), (.string ⟨#[]⟩), (.slice none 0 0)]) := by rw [← hwa]; exact Bk.new w _ _
  have hsa : wa.heap.size = w.heap.size + 1 := by rw [← hwa]; simp
  have Hwa := Lib.hid hwa; clear hwa
  have HO0 := Lib.hid (Off.of_below (S := fun k => k = b) hba)
  have HP0 := Lib.hid (h.below hba); have H0 := Lib.hid h; clear hba h
  go_enter Tryz.func31, Tryz.ntmps31
  go_wp2_with fail
  rw [Hwa.out]
  refine (qop_any b s a _ HP0.out hs).mono ?_
  rintro en w1 ⟨ho, ⟨o, a1, rfl, hp, hto⟩ | ⟨a1, e1, rfl, hp, hno⟩⟩
  case inr =>
    have HP1 := Lib.hid hp; have HO1 := Lib.hid (HO0.out.trans ho); have HN := Lib.hid (pOp_no hno)
    clear hp ho hno
    go_wp2_with fail
    exact ⟨rfl, HO1.out, .inr ⟨_, _, rfl, HP1.out, HN.out⟩⟩
  obtain ⟨ho1, ho8, he1⟩ := pOp_ok hto
  have HE1 := Lib.hid he1
  have HP1 := Lib.hid hp; have HO1 := Lib.hid (HO0.out.trans ho); have HR1 := Lib.hid (HR0.out.off ho (fun h => hne h.symm))
  have hsz : w.heap.size + 1 ≤ w1.heap.size := by rw [← hsa]; exact ho.size
  clear hp ho hto he1
  obtain ⟨J, hJ⟩ : ∃ J, w1.heap.size = J := ⟨_, rfl⟩
  obtain ⟨w2, hw2⟩ : ∃ w2, w1.alloc (.cells [(.int .i64 (o : Int)), (.string ⟨#[]⟩), (.string ⟨#[]⟩), (.string ⟨#[]⟩), (.string ⟨#[]⟩), (.int .i64 0), (.int .i64 0), (.bool false), (.int .i64 0), (.int .i64 0), (.string ⟨#[]⟩), (.slice none 0 0)].toArray 28) = w2 := ⟨_, rfl⟩
  have hb2 : Below w1.heap.size w1 w2 := by rw [← hw2]; exact (Below.refl _ _).alloc (Nat.le_refl _) _
  have HJ2 : Hid (Bk 28 w2 J [(.int .i64 (o : Int)), (.string ⟨#[]⟩), (.string ⟨#[]⟩), (.string ⟨#[]⟩), (.string ⟨#[]⟩), (.int .i64 0), (.int .i64 0), (.bool false), (.int .i64 0), (.int .i64 0), (.string ⟨#[]⟩), (.slice none 0 0)]) := by rw [← hw2, ← hJ]; exact Bk.new w1 _ _
  have HP2 := Lib.hid (HP1.out.below hb2); have HO2 := Lib.hid (HO1.out.then hb2); have HR2 := Lib.hid (HR1.out.below hb2)
  have hrJ : J ≠ w.heap.size := by omega
  have hnJ : b ≠ J := by have := HP1.out.lt; omega
  have hwJ : w.heap.size ≤ J := by omega
  have HJe := Lib.hid hJ
  have Hw2 := Lib.hid hw2; clear hw2 hb2
  go_wp2_with fail
  rw [Hw2.out]
  try rw [HJe.out]
  clear hsz hJ
  refine (qname_any b s a1 _ HP2.out hs).mono ?_
  rintro en w3 ⟨ho, ⟨n2, a2, rfl, hp, hto⟩ | ⟨a2, e1, rfl, hp, hno⟩⟩
  case inr =>
    have HPx := Lib.hid hp; have HOx := Lib.hid (HO2.out.trans ho)
    have HN : Hid (QNo pChange s a a2 e1) := ⟨hno.1, by rw [HE1.out]; show (pName ((bs s).drop a1)).bind _ = _; rw [hno.2]; rfl⟩
    clear hp ho hno
    go_wp2_with fail
    exact ⟨rfl, HOx.out, .inr ⟨_, _, rfl, HPx.out, HN.out⟩⟩
  have HT2 : Hid (QTo pName s a1 n2 a2) := hto
  have HP3 := Lib.hid hp; have HO3 := Lib.hid (HO2.out.trans ho); have HR3 := Lib.hid (HR2.out.off ho (fun h => hne h.symm)); have HJ3 := Lib.hid (HJ2.out.off ho (fun h => hnJ h.symm))
  clear hp ho hto
  have c1 := HJ3.out.at 1 _ rfl; have q1 := HJ3.out.thaw 1
  go_upto_region 3 with fail
  clear c1 q1
  have HJ4 := Lib.hid (HJ3.out.set 1 (.string (strB n2)))
  have HR4 := Lib.hid (HR3.out.put J 1 (.string (strB n2)) hrJ)
  have HO4 := Lib.hid (HO3.out.put J 1 (.string (strB n2)) hwJ)
  have HP4 := Lib.hid (H0.out.fin HP3.out (by rw [put_ne _ _ _ _ _ hnJ]) HO4.out)
  have HE2 : Hid (pChange ((bs s).drop a) = pRest o n2 ((bs s).drop a2)) := by
    show _ = _
    rw [HE1.out, HT2.out]; rfl
  have d0 := HJ4.out.at 0 _ rfl
  rcases (show o = 1 ∨ o = 2 ∨ o = 3 ∨ o = 4 ∨ o = 5 ∨ o = 6 ∨ o = 7 ∨ o = 8 by omega) with e | e | e | e | e | e | e | e
  · subst e
    rw [pRest_1] at HE2
    go_wp2_with fail
    clear d0
    refine (qcolumns_any b s a2 _ HP4.out hs).mono ?_
    rintro en w5 ⟨ho, ⟨v, l, a3, rfl, hown, hp, hto, hl10⟩ | ⟨a3, e1, rfl, hp, hno⟩⟩
    case inr =>
      have HPx := Lib.hid hp; have HOx := Lib.hid (HO4.out.trans ho)
      have HN : Hid (QNo pChange s a a3 e1) := ⟨hno.1, by rw [HE2.out]; show (pColsP ((bs s).drop a2)).bind _ = _; rw [hno.2]; rfl⟩
      clear hp ho hno
      go_wp2_with fail
      exact ⟨rfl, HOx.out, .inr ⟨_, _, rfl, HPx.out, HN.out⟩⟩
    have HT3 : Hid (QTo pColsP s a2 l a3) := hto
    have HP5 := Lib.hid hp; have HO5 := Lib.hid (HO4.out.trans ho); have HR5 := Lib.hid (HR4.out.off ho (fun h => hne h.symm)); have HJ5 := Lib.hid (HJ4.out.off ho (fun h => hnJ h.symm))
    obtain ⟨BB, hBB, hown⟩ : ∃ BB, (b < BB ∧ J < BB) ∧ OwnC w5 BB v l := ⟨_, ⟨HP4.out.lt, HJ4.out.lt⟩, hown⟩
    have Hbw := Lib.hid hBB; clear hBB
    obtain ⟨A, cp, rfl, _, _, _⟩ := hown.form
    have HW5 := Lib.hid hown; have Hl := Lib.hid hl10; clear hown hl10
    clear hp ho hto
    have c11 := HJ5.out.at 11 _ rfl; have q11 := HJ5.out.thaw 11
    go_wp2_with fail
    clear c11 q11
    have HJ6 := Lib.hid (HJ5.out.set 11 (.slice A l.length cp))
    have HR6 := Lib.hid (HR5.out.put J 11 (.slice A l.length cp) hrJ)
    have HO6 := Lib.hid (HO5.out.put J 11 (.slice A l.length cp) hwJ)
    have HP6 := Lib.hid (H0.out.fin HP5.out (by rw [put_ne _ _ _ _ _ hnJ]) HO6.out)
    have HW6 := Lib.hid (OwnR.off HW5.out (Off.set _ J 11 (.slice A l.length cp)) (fun x hx e => by have := (HW5.out.lt x hx).1; have := Hbw.out; omega))
    refine (qword_any b s a3 ⟨#[107, 101, 121]⟩ _ HP6.out hs).mono ?_
    rintro en w7 ⟨ho, ⟨_, a4, rfl, hp, hto⟩ | ⟨a4, e1, rfl, hp, hno⟩⟩
    case inr =>
      have HPx := Lib.hid hp; have HOx := Lib.hid (HO6.out.trans ho)
      have hno : QNo (un (pWord keyT)) s a3 a4 e1 := hno
      have HN : Hid (QNo pChange s a a4 e1) := ⟨hno.1, by rw [HE2.out]; show (pColsP ((bs s).drop a2)).bind _ = _; rw [HT3.out]; show (pWord keyT ((bs s).drop a3)).bind _ = _; rw [un_er hno]; rfl⟩
      clear hp ho hno
      go_wp2_with fail
      exact ⟨rfl, HOx.out, .inr ⟨_, _, rfl, HPx.out, HN.out⟩⟩
    have HT4 : Hid (QTo (un (pWord keyT)) s a3 () a4) := hto
    have HP7 := Lib.hid hp; have HO7 := Lib.hid (HO6.out.trans ho); have HR7 := Lib.hid (HR6.out.off ho (fun h => hne h.symm)); have HJ7 := Lib.hid (HJ6.out.off ho (fun h => hnJ h.symm))
    have HW7 := Lib.hid (OwnR.off HW6.out ho (fun x hx e => by have := (HW6.out.lt x hx).1; have := Hbw.out; omega))
    clear hp ho hto
    go_wp2_with fail
    refine (qname_any b s a4 _ HP7.out hs).mono ?_
    rintro en w8 ⟨ho, ⟨n5, a5, rfl, hp, hto⟩ | ⟨a5, e1, rfl, hp, hno⟩⟩
    case inr =>
      have HPx := Lib.hid hp; have HOx := Lib.hid (HO7.out.trans ho)
      have HN : Hid (QNo pChange s a a5 e1) := ⟨hno.1, by rw [HE2.out]; show (pColsP ((bs s).drop a2)).bind _ = _; rw [HT3.out]; show (pWord keyT ((bs s).drop a3)).bind _ = _; rw [un_ok HT4.out]; show (pName ((bs s).drop a4)).bind _ = _; rw [hno.2]; rfl⟩
      clear hp ho hno
      go_wp2_with fail
      exact ⟨rfl, HOx.out, .inr ⟨_, _, rfl, HPx.out, HN.out⟩⟩
    have HT5 : Hid (QTo pName s a4 n5 a5) := hto
    have HP8 := Lib.hid hp; have HO8 := Lib.hid (HO7.out.trans ho); have HR8 := Lib.hid (HR7.out.off ho (fun h => hne h.symm)); have HJ8 := Lib.hid (HJ7.out.off ho (fun h => hnJ h.symm))
    have HW8 := Lib.hid (OwnR.off HW7.out ho (fun x hx e => by have := (HW7.out.lt x hx).1; have := Hbw.out; omega))
    clear hp ho hto
    have d0 := HJ8.out.at 0 _ rfl; have r0 := HR8.out.at 0 _ rfl; have p0 := HR8.out.thaw 0
    have d1 := HJ8.out.at 1 _ rfl; have r1 := HR8.out.at 1 _ rfl; have p1 := HR8.out.thaw 1
    have d2 := HJ8.out.at 2 _ rfl; have r2 := HR8.out.at 2 _ rfl; have p2 := HR8.out.thaw 2
    have d3 := HJ8.out.at 3 _ rfl; have r3 := HR8.out.at 3 _ rfl; have p3 := HR8.out.thaw 3
    have d4 := HJ8.out.at 4 _ rfl; have r4 := HR8.out.at 4 _ rfl; have p4 := HR8.out.thaw 4
    have d5 := HJ8.out.at 5 _ rfl; have r5 := HR8.out.at 5 _ rfl; have p5 := HR8.out.thaw 5
    have d6 := HJ8.out.at 6 _ rfl; have r6 := HR8.out.at 6 _ rfl; have p6 := HR8.out.thaw 6
    have d7 := HJ8.out.at 7 _ rfl; have r7 := HR8.out.at 7 _ rfl; have p7 := HR8.out.thaw 7
    have d8 := HJ8.out.at 8 _ rfl; have r8 := HR8.out.at 8 _ rfl; have p8 := HR8.out.thaw 8
    have d9 := HJ8.out.at 9 _ rfl; have r9 := HR8.out.at 9 _ rfl; have p9 := HR8.out.thaw 9
    have d10 := HJ8.out.at 10 _ rfl; have r10 := HR8.out.at 10 _ rfl; have p10 := HR8.out.thaw 10
    have d11 := HJ8.out.at 11 _ rfl; have r11 := HR8.out.at 11 _ rfl; have p11 := HR8.out.thaw 11
    have q4 := HJ8.out.thaw 4
    go_wp2_with fail
    refine bodyPost_ret (results_kD rfl _ rfl (((((((((((((HR8.out.put J 4 (.string (strB n5)) hrJ).set 0 (.int .i64 ((1 : Nat) : Int))).set 1 (.string (strB n2))).set 2 (.string ⟨#[]⟩)).set 3 (.string ⟨#[]⟩)).set 4 (.string (strB n5))).set 5 (.int .i64 0)).set 6 (.int .i64 0)).set 7 (.bool false)).set 8 (.int .i64 0)).set 9 (.int .i64 0)).set 10 (.string ⟨#[]⟩)).set 11 (.slice A l.length cp))) rfl ?_
    have ho := (((((((((((((HO8.out.put J 4 (.string (strB n5)) hwJ).put w.heap.size 0 (.int .i64 ((1 : Nat) : Int)) (Nat.le_refl _)).put w.heap.size 1 (.string (strB n2)) (Nat.le_refl _)).put w.heap.size 2 (.string ⟨#[]⟩) (Nat.le_refl _)).put w.heap.size 3 (.string ⟨#[]⟩) (Nat.le_refl _)).put w.heap.size 4 (.string (strB n5)) (Nat.le_refl _)).put w.heap.size 5 (.int .i64 0) (Nat.le_refl _)).put w.heap.size 6 (.int .i64 0) (Nat.le_refl _)).put w.heap.size 7 (.bool false) (Nat.le_refl _)).put w.heap.size 8 (.int .i64 0) (Nat.le_refl _)).put w.heap.size 9 (.int .i64 0) (Nat.le_refl _)).put w.heap.size 10 (.string ⟨#[]⟩) (Nat.le_refl _)).put w.heap.size 11 (.slice A l.length cp) (Nat.le_refl _))
    have hwf := HW8.out
    have hwf := OwnR.off hwf (Off.set _ J 4 (.string (strB n5))) (fun x hx e => by have := (HW8.out.lt x hx).1; have := Hbw.out; omega)
    have hwf := OwnR.off hwf (Off.set _ w.heap.size 0 (.int .i64 ((1 : Nat) : Int))) (fun x hx e => by have := (HW8.out.lt x hx).1; have := Hbw.out; omega)
    have hwf := OwnR.off hwf (Off.set _ w.heap.size 1 (.string (strB n2))) (fun x hx e => by have := (HW8.out.lt x hx).1; have := Hbw.out; omega)
    have hwf := OwnR.off hwf (Off.set _ w.heap.size 2 (.string ⟨#[]⟩)) (fun x hx e => by have := (HW8.out.lt x hx).1; have := Hbw.out; omega)
    have hwf := OwnR.off hwf (Off.set _ w.heap.size 3 (.string ⟨#[]⟩)) (fun x hx e => by have := (HW8.out.lt x hx).1; have := Hbw.out; omega)
    have hwf := OwnR.off hwf (Off.set _ w.heap.size 4 (.string (strB n5))) (fun x hx e => by have := (HW8.out.lt x hx).1; have := Hbw.out; omega)
    have hwf := OwnR.off hwf (Off.set _ w.heap.size 5 (.int .i64 0)) (fun x hx e => by have := (HW8.out.lt x hx).1; have := Hbw.out; omega)
    have hwf := OwnR.off hwf (Off.set _ w.heap.size 6 (.int .i64 0)) (fun x hx e => by have := (HW8.out.lt x hx).1; have := Hbw.out; omega)
    have hwf := OwnR.off hwf (Off.set _ w.heap.size 7 (.bool false)) (fun x hx e => by have := (HW8.out.lt x hx).1; have := Hbw.out; omega)
    have hwf := OwnR.off hwf (Off.set _ w.heap.size 8 (.int .i64 0)) (fun x hx e => by have := (HW8.out.lt x hx).1; have := Hbw.out; omega)
    have hwf := OwnR.off hwf (Off.set _ w.heap.size 9 (.int .i64 0)) (fun x hx e => by have := (HW8.out.lt x hx).1; have := Hbw.out; omega)
    have hwf := OwnR.off hwf (Off.set _ w.heap.size 10 (.string ⟨#[]⟩)) (fun x hx e => by have := (HW8.out.lt x hx).1; have := Hbw.out; omega)
    have hwf := OwnR.off hwf (Off.set _ w.heap.size 11 (.slice A l.length cp)) (fun x hx e => by have := (HW8.out.lt x hx).1; have := Hbw.out; omega)
    exact ⟨ho, .inl ⟨⟨{ dp0 1 n2 with cols := l, key := strB n5 }, A, cp⟩, a5, rfl, OwnR.at lenC hwf, H0.out.fin HP8.out (by rw [put_ne _ _ _ _ _ hne, put_ne _ _ _ _ _ hne, put_ne _ _ _ _ _ hne, put_ne _ _ _ _ _ hne, put_ne _ _ _ _ _ hne, put_ne _ _ _ _ _ hne, put_ne _ _ _ _ _ hne, put_ne _ _ _ _ _ hne, put_ne _ _ _ _ _ hne, put_ne _ _ _ _ _ hne, put_ne _ _ _ _ _ hne, put_ne _ _ _ _ _ hne, put_ne _ _ _ _ _ hnJ]) ho, by show pChange _ = _; rw [HE2.out]; show (pColsP ((bs s).drop a2)).bind _ = _; rw [HT3.out]; show (pWord keyT ((bs s).drop a3)).bind _ = _; rw [un_ok HT4.out]; show (pName ((bs s).drop a4)).bind _ = _; rw [HT5.out]; rfl, Hl.out, fun p hp => by have hp2 : A = some p := hp; subst hp2; have := (HW8.out.lt p.block rfl).1; have := Hbw.out; omega⟩⟩
  · subst e
    rw [pRest_2] at HE2
    clear d0
    have d0 := HJ4.out.at 0 _ rfl; have r0 := HR4.out.at 0 _ rfl; have p0 := HR4.out.thaw 0
    have d1 := HJ4.out.at 1 _ rfl; have r1 := HR4.out.at 1 _ rfl; have p1 := HR4.out.thaw 1
    have d2 := HJ4.out.at 2 _ rfl; have r2 := HR4.out.at 2 _ rfl; have p2 := HR4.out.thaw 2
    have d3 := HJ4.out.at 3 _ rfl; have r3 := HR4.out.at 3 _ rfl; have p3 := HR4.out.thaw 3
    have d4 := HJ4.out.at 4 _ rfl; have r4 := HR4.out.at 4 _ rfl; have p4 := HR4.out.thaw 4
    have d5 := HJ4.out.at 5 _ rfl; have r5 := HR4.out.at 5 _ rfl; have p5 := HR4.out.thaw 5
    have d6 := HJ4.out.at 6 _ rfl; have r6 := HR4.out.at 6 _ rfl; have p6 := HR4.out.thaw 6
    have d7 := HJ4.out.at 7 _ rfl; have r7 := HR4.out.at 7 _ rfl; have p7 := HR4.out.thaw 7
    have d8 := HJ4.out.at 8 _ rfl; have r8 := HR4.out.at 8 _ rfl; have p8 := HR4.out.thaw 8
    have d9 := HJ4.out.at 9 _ rfl; have r9 := HR4.out.at 9 _ rfl; have p9 := HR4.out.thaw 9
    have d10 := HJ4.out.at 10 _ rfl; have r10 := HR4.out.at 10 _ rfl; have p10 := HR4.out.thaw 10
    have d11 := HJ4.out.at 11 _ rfl; have r11 := HR4.out.at 11 _ rfl; have p11 := HR4.out.thaw 11
    go_wp2_with fail
    refine bodyPost_ret (results_kD rfl _ rfl ((((((((((((HR4.out.set 0 (.int .i64 ((2 : Nat) : Int))).set 1 (.string (strB n2))).set 2 (.string ⟨#[]⟩)).set 3 (.string ⟨#[]⟩)).set 4 (.string ⟨#[]⟩)).set 5 (.int .i64 0)).set 6 (.int .i64 0)).set 7 (.bool false)).set 8 (.int .i64 0)).set 9 (.int .i64 0)).set 10 (.string ⟨#[]⟩)).set 11 (.slice none 0 0))) rfl ?_
    have ho := ((((((((((((HO4.out.put w.heap.size 0 (.int .i64 ((2 : Nat) : Int)) (Nat.le_refl _)).put w.heap.size 1 (.string (strB n2)) (Nat.le_refl _)).put w.heap.size 2 (.string ⟨#[]⟩) (Nat.le_refl _)).put w.heap.size 3 (.string ⟨#[]⟩) (Nat.le_refl _)).put w.heap.size 4 (.string ⟨#[]⟩) (Nat.le_refl _)).put w.heap.size 5 (.int .i64 0) (Nat.le_refl _)).put w.heap.size 6 (.int .i64 0) (Nat.le_refl _)).put w.heap.size 7 (.bool false) (Nat.le_refl _)).put w.heap.size 8 (.int .i64 0) (Nat.le_refl _)).put w.heap.size 9 (.int .i64 0) (Nat.le_refl _)).put w.heap.size 10 (.string ⟨#[]⟩) (Nat.le_refl _)).put w.heap.size 11 (.slice none 0 0) (Nat.le_refl _))
    exact ⟨ho, .inl ⟨⟨dp0 2 n2, none, 0⟩, a2, rfl, fun hp => absurd hp (by simp [dp0]), H0.out.fin HP4.out (by rw [put_ne _ _ _ _ _ hne, put_ne _ _ _ _ _ hne, put_ne _ _ _ _ _ hne, put_ne _ _ _ _ _ hne, put_ne _ _ _ _ _ hne, put_ne _ _ _ _ _ hne, put_ne _ _ _ _ _ hne, put_ne _ _ _ _ _ hne, put_ne _ _ _ _ _ hne, put_ne _ _ _ _ _ hne, put_ne _ _ _ _ _ hne, put_ne _ _ _ _ _ hne]) ho, by show pChange _ = _; rw [HE2.out], by simp [dp0], fun p hp => by cases hp⟩⟩
  · subst e
    rw [pRest_3] at HE2
    go_wp2_with fail
    clear d0
    refine (qword_any b s a2 ⟨#[116, 111]⟩ _ HP4.out hs).mono ?_
    rintro en w5 ⟨ho, ⟨_, a3, rfl, hp, hto⟩ | ⟨a3, e1, rfl, hp, hno⟩⟩
    case inr =>
      have HPx := Lib.hid hp; have HOx := Lib.hid (HO4.out.trans ho)
      have hno : QNo (un (pWord toT)) s a2 a3 e1 := hno
      have HN : Hid (QNo pChange s a a3 e1) := ⟨hno.1, by rw [HE2.out]; show (pWord toT ((bs s).drop a2)).bind _ = _; rw [un_er hno]; rfl⟩
      clear hp ho hno
      go_wp2_with fail
      exact ⟨rfl, HOx.out, .inr ⟨_, _, rfl, HPx.out, HN.out⟩⟩
    have HT3 : Hid (QTo (un (pWord toT)) s a2 () a3) := hto
    have HP5 := Lib.hid hp; have HO5 := Lib.hid (HO4.out.trans ho); have HR5 := Lib.hid (HR4.out.off ho (fun h => hne h.symm)); have HJ5 := Lib.hid (HJ4.out.off ho (fun h => hnJ h.symm))
    clear hp ho hto
    go_wp2_with fail
    refine (qname_any b s a3 _ HP5.out hs).mono ?_
    rintro en w6 ⟨ho, ⟨n4, a4, rfl, hp, hto⟩ | ⟨a4, e1, rfl, hp, hno⟩⟩
    case inr =>
      have HPx := Lib.hid hp; have HOx := Lib.hid (HO5.out.trans ho)
      have HN : Hid (QNo pChange s a a4 e1) := ⟨hno.1, by rw [HE2.out]; show (pWord toT ((bs s).drop a2)).bind _ = _; rw [un_ok HT3.out]; show (pName ((bs s).drop a3)).bind _ = _; rw [hno.2]; rfl⟩
      clear hp ho hno
      go_wp2_with fail
      exact ⟨rfl, HOx.out, .inr ⟨_, _, rfl, HPx.out, HN.out⟩⟩
    have HT4 : Hid (QTo pName s a3 n4 a4) := hto
    have HP6 := Lib.hid hp; have HO6 := Lib.hid (HO5.out.trans ho); have HR6 := Lib.hid (HR5.out.off ho (fun h => hne h.symm)); have HJ6 := Lib.hid (HJ5.out.off ho (fun h => hnJ h.symm))
    clear hp ho hto
    have d0 := HJ6.out.at 0 _ rfl; have r0 := HR6.out.at 0 _ rfl; have p0 := HR6.out.thaw 0
    have d1 := HJ6.out.at 1 _ rfl; have r1 := HR6.out.at 1 _ rfl; have p1 := HR6.out.thaw 1
    have d2 := HJ6.out.at 2 _ rfl; have r2 := HR6.out.at 2 _ rfl; have p2 := HR6.out.thaw 2
    have d3 := HJ6.out.at 3 _ rfl; have r3 := HR6.out.at 3 _ rfl; have p3 := HR6.out.thaw 3
    have d4 := HJ6.out.at 4 _ rfl; have r4 := HR6.out.at 4 _ rfl; have p4 := HR6.out.thaw 4
    have d5 := HJ6.out.at 5 _ rfl; have r5 := HR6.out.at 5 _ rfl; have p5 := HR6.out.thaw 5
    have d6 := HJ6.out.at 6 _ rfl; have r6 := HR6.out.at 6 _ rfl; have p6 := HR6.out.thaw 6
    have d7 := HJ6.out.at 7 _ rfl; have r7 := HR6.out.at 7 _ rfl; have p7 := HR6.out.thaw 7
    have d8 := HJ6.out.at 8 _ rfl; have r8 := HR6.out.at 8 _ rfl; have p8 := HR6.out.thaw 8
    have d9 := HJ6.out.at 9 _ rfl; have r9 := HR6.out.at 9 _ rfl; have p9 := HR6.out.thaw 9
    have d10 := HJ6.out.at 10 _ rfl; have r10 := HR6.out.at 10 _ rfl; have p10 := HR6.out.thaw 10
    have d11 := HJ6.out.at 11 _ rfl; have r11 := HR6.out.at 11 _ rfl; have p11 := HR6.out.thaw 11
    have q3 := HJ6.out.thaw 3
    go_wp2_with fail
    refine bodyPost_ret (results_kD rfl _ rfl (((((((((((((HR6.out.put J 3 (.string (strB n4)) hrJ).set 0 (.int .i64 ((3 : Nat) : Int))).set 1 (.string (strB n2))).set 2 (.string ⟨#[]⟩)).set 3 (.string (strB n4))).set 4 (.string ⟨#[]⟩)).set 5 (.int .i64 0)).set 6 (.int .i64 0)).set 7 (.bool false)).set 8 (.int .i64 0)).set 9 (.int .i64 0)).set 10 (.string ⟨#[]⟩)).set 11 (.slice none 0 0))) rfl ?_
    have ho := (((((((((((((HO6.out.put J 3 (.string (strB n4)) hwJ).put w.heap.size 0 (.int .i64 ((3 : Nat) : Int)) (Nat.le_refl _)).put w.heap.size 1 (.string (strB n2)) (Nat.le_refl _)).put w.heap.size 2 (.string ⟨#[]⟩) (Nat.le_refl _)).put w.heap.size 3 (.string (strB n4)) (Nat.le_refl _)).put w.heap.size 4 (.string ⟨#[]⟩) (Nat.le_refl _)).put w.heap.size 5 (.int .i64 0) (Nat.le_refl _)).put w.heap.size 6 (.int .i64 0) (Nat.le_refl _)).put w.heap.size 7 (.bool false) (Nat.le_refl _)).put w.heap.size 8 (.int .i64 0) (Nat.le_refl _)).put w.heap.size 9 (.int .i64 0) (Nat.le_refl _)).put w.heap.size 10 (.string ⟨#[]⟩) (Nat.le_refl _)).put w.heap.size 11 (.slice none 0 0) (Nat.le_refl _))
    exact ⟨ho, .inl ⟨⟨{ dp0 3 n2 with «to» := strB n4 }, none, 0⟩, a4, rfl, fun hp => absurd hp (by simp [dp0]), H0.out.fin HP6.out (by rw [put_ne _ _ _ _ _ hne, put_ne _ _ _ _ _ hne, put_ne _ _ _ _ _ hne, put_ne _ _ _ _ _ hne, put_ne _ _ _ _ _ hne, put_ne _ _ _ _ _ hne, put_ne _ _ _ _ _ hne, put_ne _ _ _ _ _ hne, put_ne _ _ _ _ _ hne, put_ne _ _ _ _ _ hne, put_ne _ _ _ _ _ hne, put_ne _ _ _ _ _ hne, put_ne _ _ _ _ _ hnJ]) ho, by show pChange _ = _; rw [HE2.out]; show (pWord toT ((bs s).drop a2)).bind _ = _; rw [un_ok HT3.out]; show (pName ((bs s).drop a3)).bind _ = _; rw [HT4.out]; rfl, by simp [dp0], fun p hp => by cases hp⟩⟩
  · subst e
    rw [pRest_4] at HE2
    go_wp2_with fail
    clear d0
    refine (qcolumn_any b s a2 _ HP4.out hs).mono ?_
    rintro en w5 ⟨ho, ⟨c, a3, rfl, hp, hto⟩ | ⟨a3, e1, rfl, hp, hno⟩⟩
    case inr =>
      have HPx := Lib.hid hp; have HOx := Lib.hid (HO4.out.trans ho)
      have HN : Hid (QNo pChange s a a3 e1) := ⟨hno.1, by rw [HE2.out]; show (pCol ((bs s).drop a2)).bind _ = _; rw [hno.2]; rfl⟩
      clear hp ho hno
      go_wp2_with fail
      exact ⟨rfl, HOx.out, .inr ⟨_, _, rfl, HPx.out, HN.out⟩⟩
    have HT3 : Hid (QTo pCol s a2 c a3) := hto
    have HP5 := Lib.hid hp; have HO5 := Lib.hid (HO4.out.trans ho); have HR5 := Lib.hid (HR4.out.off ho (fun h => hne h.symm)); have HJ5 := Lib.hid (HJ4.out.off ho (fun h => hnJ h.symm))
    clear hp ho hto
    obtain ⟨cid, cnm, ctk, ctm, cnl, cdk, cdn, cds⟩ := c
    obtain ⟨K, hK⟩ : ∃ K, w5.heap.size = K := ⟨_, rfl⟩
    obtain ⟨wx, hwx⟩ : ∃ wx, w5.alloc (.cells [.int .i64 cid, .string cnm, .int .i64 ctk, .int .i64 ctm, .bool cnl, .int .i64 cdk, .int .i64 cdn, .string cds].toArray 56) = wx := ⟨_, rfl⟩
    have hbx : Below w5.heap.size w5 wx := by rw [← hwx]; exact (Below.refl _ _).alloc (Nat.le_refl _) _
    have HK : Hid (Bk 56 wx K [.int .i64 cid, .string cnm, .int .i64 ctk, .int .i64 ctm, .bool cnl, .int .i64 cdk, .int .i64 cdn, .string cds]) := by rw [← hwx, ← hK]; exact Bk.new w5 _ _
    have HPx := Lib.hid (HP5.out.below hbx); have HOx := Lib.hid (HO5.out.then hbx); have HRx := Lib.hid (HR5.out.below hbx); have HJx := Lib.hid (HJ5.out.below hbx)
    have hKJ : K ≠ J := by have := HJ5.out.lt; omega
    have hJK : J ≠ K := fun e => hKJ e.symm
    have Hwx := Lib.hid hwx; have HKe := Lib.hid hK; clear hwx hbx hK
    go_upto_region 13 with fail
    rw [Hwx.out]
    try rw [HKe.out]
    have k1 := HK.out.at 1 _ rfl
    have k2 := HK.out.at 2 _ rfl
    have k3 := HK.out.at 3 _ rfl
    have k4 := HK.out.at 4 _ rfl
    have k5 := HK.out.at 5 _ rfl
    have k6 := HK.out.at 6 _ rfl
    have k7 := HK.out.at 7 _ rfl
    have c2 := HJx.out.at 2 _ rfl; have q2 := HJx.out.thaw 2
    have c5 := HJx.out.at 5 _ rfl; have q5 := HJx.out.thaw 5
    have c6 := HJx.out.at 6 _ rfl; have q6 := HJx.out.thaw 6
    have c7 := HJx.out.at 7 _ rfl; have q7 := HJx.out.thaw 7
    have c8 := HJx.out.at 8 _ rfl; have q8 := HJx.out.thaw 8
    have c9 := HJx.out.at 9 _ rfl; have q9 := HJx.out.thaw 9
    have c10 := HJx.out.at 10 _ rfl; have q10 := HJx.out.thaw 10
    go_big_region
    clear k1 k2 k3 k4 k5 k6 k7 hKJ hJK c2 q2 c5 q5 c6 q6 c7 q7 c8 q8 c9 q9 c10 q10
    have hJy := (((((((HJx.out.set 2 (.string cnm)).set 5 (.int .i64 ctk)).set 6 (.int .i64 ctm)).set 7 (.bool cnl)).set 8 (.int .i64 cdk)).set 9 (.int .i64 cdn)).set 10 (.string cds))
    have hRy := (((((((HRx.out.put J 2 (.string cnm) hrJ).put J 5 (.int .i64 ctk) hrJ).put J 6 (.int .i64 ctm) hrJ).put J 7 (.bool cnl) hrJ).put J 8 (.int .i64 cdk) hrJ).put J 9 (.int .i64 cdn) hrJ).put J 10 (.string cds) hrJ)
    have hOy := (((((((HOx.out.put J 2 (.string cnm) hwJ).put J 5 (.int .i64 ctk) hwJ).put J 6 (.int .i64 ctm) hwJ).put J 7 (.bool cnl) hwJ).put J 8 (.int .i64 cdk) hwJ).put J 9 (.int .i64 cdn) hwJ).put J 10 (.string cds) hwJ)
    have hPy := H0.out.fin HPx.out (by rw [put_ne _ _ _ _ _ hnJ, put_ne _ _ _ _ _ hnJ, put_ne _ _ _ _ _ hnJ, put_ne _ _ _ _ _ hnJ, put_ne _ _ _ _ _ hnJ, put_ne _ _ _ _ _ hnJ, put_ne _ _ _ _ _ hnJ]) hOy
    obtain ⟨wy, hwy⟩ : ∃ wy, (((((((wx.setCell ⟨J, 2, none⟩ (.string cnm)).setCell ⟨J, 5, none⟩ (.int .i64 ctk)).setCell ⟨J, 6, none⟩ (.int .i64 ctm)).setCell ⟨J, 7, none⟩ (.bool cnl)).setCell ⟨J, 8, none⟩ (.int .i64 cdk)).setCell ⟨J, 9, none⟩ (.int .i64 cdn)).setCell ⟨J, 10, none⟩ (.string cds)) = wy := ⟨_, rfl⟩
    rw [hwy] at hJy hRy hOy hPy ⊢
    clear hwy
    have HJ9 : Hid (Bk 28 wy.drew J [(.int .i64 ((4 : Nat) : Int)), (.string (strB n2)), (.string cnm), (.string ⟨#[]⟩), (.string ⟨#[]⟩), (.int .i64 ctk), (.int .i64 ctm), (.bool cnl), (.int .i64 cdk), (.int .i64 cdn), (.string cds), (.slice none 0 0)]) := hJy.below (Below.refl _ _).drew
    have HR9 : Hid (Bk 28 wy.drew w.heap.size [(.int .i64 0), (.string ⟨#[]⟩), (.string ⟨#[]⟩), (.string ⟨#[]⟩), (.string ⟨#[]⟩), (.int .i64 0), (.int .i64 0), (.bool false), (.int .i64 0), (.int .i64 0), (.string ⟨#[]⟩), (.slice none 0 0)]) := hRy.below (Below.refl _ _).drew
    have HO9 : Hid (Off (fun k => k = b) w wy.drew) := hOy.then (Below.refl _ _).drew
    have HP9 : Hid (QBx 63 wy.drew b s a3) := hPy.below (Below.refl _ _).drew
    clear hJy hRy hOy hPy
    generalize wy.drew = wd at HJ9 HR9 HO9 HP9 ⊢
    have d0 := HJ9.out.at 0 _ rfl; have r0 := HR9.out.at 0 _ rfl; have p0 := HR9.out.thaw 0
    have d1 := HJ9.out.at 1 _ rfl; have r1 := HR9.out.at 1 _ rfl; have p1 := HR9.out.thaw 1
    have d2 := HJ9.out.at 2 _ rfl; have r2 := HR9.out.at 2 _ rfl; have p2 := HR9.out.thaw 2
    have d3 := HJ9.out.at 3 _ rfl; have r3 := HR9.out.at 3 _ rfl; have p3 := HR9.out.thaw 3
    have d4 := HJ9.out.at 4 _ rfl; have r4 := HR9.out.at 4 _ rfl; have p4 := HR9.out.thaw 4
    have d5 := HJ9.out.at 5 _ rfl; have r5 := HR9.out.at 5 _ rfl; have p5 := HR9.out.thaw 5
    have d6 := HJ9.out.at 6 _ rfl; have r6 := HR9.out.at 6 _ rfl; have p6 := HR9.out.thaw 6
    have d7 := HJ9.out.at 7 _ rfl; have r7 := HR9.out.at 7 _ rfl; have p7 := HR9.out.thaw 7
    have d8 := HJ9.out.at 8 _ rfl; have r8 := HR9.out.at 8 _ rfl; have p8 := HR9.out.thaw 8
    have d9 := HJ9.out.at 9 _ rfl; have r9 := HR9.out.at 9 _ rfl; have p9 := HR9.out.thaw 9
    have d10 := HJ9.out.at 10 _ rfl; have r10 := HR9.out.at 10 _ rfl; have p10 := HR9.out.thaw 10
    have d11 := HJ9.out.at 11 _ rfl; have r11 := HR9.out.at 11 _ rfl; have p11 := HR9.out.thaw 11
    go_wp2_with fail
    refine bodyPost_ret (results_kD rfl _ rfl ((((((((((((HR9.out.set 0 (.int .i64 ((4 : Nat) : Int))).set 1 (.string (strB n2))).set 2 (.string cnm)).set 3 (.string ⟨#[]⟩)).set 4 (.string ⟨#[]⟩)).set 5 (.int .i64 ctk)).set 6 (.int .i64 ctm)).set 7 (.bool cnl)).set 8 (.int .i64 cdk)).set 9 (.int .i64 cdn)).set 10 (.string cds)).set 11 (.slice none 0 0))) rfl ?_
    have ho := ((((((((((((HO9.out.put w.heap.size 0 (.int .i64 ((4 : Nat) : Int)) (Nat.le_refl _)).put w.heap.size 1 (.string (strB n2)) (Nat.le_refl _)).put w.heap.size 2 (.string cnm) (Nat.le_refl _)).put w.heap.size 3 (.string ⟨#[]⟩) (Nat.le_refl _)).put w.heap.size 4 (.string ⟨#[]⟩) (Nat.le_refl _)).put w.heap.size 5 (.int .i64 ctk) (Nat.le_refl _)).put w.heap.size 6 (.int .i64 ctm) (Nat.le_refl _)).put w.heap.size 7 (.bool cnl) (Nat.le_refl _)).put w.heap.size 8 (.int .i64 cdk) (Nat.le_refl _)).put w.heap.size 9 (.int .i64 cdn) (Nat.le_refl _)).put w.heap.size 10 (.string cds) (Nat.le_refl _)).put w.heap.size 11 (.slice none 0 0) (Nat.le_refl _))
    exact ⟨ho, .inl ⟨⟨{ dp0 4 n2 with co := cnm, tk := ctk, tm := ctm, nl := cnl, dk := cdk, dn := cdn, ds := cds }, none, 0⟩, a3, rfl, fun hp => absurd hp (by simp [dp0]), H0.out.fin HP9.out (by rw [put_ne _ _ _ _ _ hne, put_ne _ _ _ _ _ hne, put_ne _ _ _ _ _ hne, put_ne _ _ _ _ _ hne, put_ne _ _ _ _ _ hne, put_ne _ _ _ _ _ hne, put_ne _ _ _ _ _ hne, put_ne _ _ _ _ _ hne, put_ne _ _ _ _ _ hne, put_ne _ _ _ _ _ hne, put_ne _ _ _ _ _ hne, put_ne _ _ _ _ _ hne]) ho, by show pChange _ = _; rw [HE2.out]; show (pCol ((bs s).drop a2)).bind _ = _; rw [HT3.out]; rfl, by simp [dp0], fun p hp => by cases hp⟩⟩
  · subst e
    rw [pRest_5] at HE2
    go_wp2_with fail
    clear d0
    refine (qname_any b s a2 _ HP4.out hs).mono ?_
    rintro en w5 ⟨ho, ⟨n3, a3, rfl, hp, hto⟩ | ⟨a3, e1, rfl, hp, hno⟩⟩
    case inr =>
      have HPx := Lib.hid hp; have HOx := Lib.hid (HO4.out.trans ho)
      have HN : Hid (QNo pChange s a a3 e1) := ⟨hno.1, by rw [HE2.out]; show (pName ((bs s).drop a2)).bind _ = _; rw [hno.2]; rfl⟩
      clear hp ho hno
      go_wp2_with fail
      exact ⟨rfl, HOx.out, .inr ⟨_, _, rfl, HPx.out, HN.out⟩⟩
    have HT3 : Hid (QTo pName s a2 n3 a3) := hto
    have HP5 := Lib.hid hp; have HO5 := Lib.hid (HO4.out.trans ho); have HR5 := Lib.hid (HR4.out.off ho (fun h => hne h.symm)); have HJ5 := Lib.hid (HJ4.out.off ho (fun h => hnJ h.symm))
    clear hp ho hto
    have d0 := HJ5.out.at 0 _ rfl; have r0 := HR5.out.at 0 _ rfl; have p0 := HR5.out.thaw 0
    have d1 := HJ5.out.at 1 _ rfl; have r1 := HR5.out.at 1 _ rfl; have p1 := HR5.out.thaw 1
    have d2 := HJ5.out.at 2 _ rfl; have r2 := HR5.out.at 2 _ rfl; have p2 := HR5.out.thaw 2
    have d3 := HJ5.out.at 3 _ rfl; have r3 := HR5.out.at 3 _ rfl; have p3 := HR5.out.thaw 3
    have d4 := HJ5.out.at 4 _ rfl; have r4 := HR5.out.at 4 _ rfl; have p4 := HR5.out.thaw 4
    have d5 := HJ5.out.at 5 _ rfl; have r5 := HR5.out.at 5 _ rfl; have p5 := HR5.out.thaw 5
    have d6 := HJ5.out.at 6 _ rfl; have r6 := HR5.out.at 6 _ rfl; have p6 := HR5.out.thaw 6
    have d7 := HJ5.out.at 7 _ rfl; have r7 := HR5.out.at 7 _ rfl; have p7 := HR5.out.thaw 7
    have d8 := HJ5.out.at 8 _ rfl; have r8 := HR5.out.at 8 _ rfl; have p8 := HR5.out.thaw 8
    have d9 := HJ5.out.at 9 _ rfl; have r9 := HR5.out.at 9 _ rfl; have p9 := HR5.out.thaw 9
    have d10 := HJ5.out.at 10 _ rfl; have r10 := HR5.out.at 10 _ rfl; have p10 := HR5.out.thaw 10
    have d11 := HJ5.out.at 11 _ rfl; have r11 := HR5.out.at 11 _ rfl; have p11 := HR5.out.thaw 11
    have q2 := HJ5.out.thaw 2
    go_wp2_with fail
    refine bodyPost_ret (results_kD rfl _ rfl (((((((((((((HR5.out.put J 2 (.string (strB n3)) hrJ).set 0 (.int .i64 ((5 : Nat) : Int))).set 1 (.string (strB n2))).set 2 (.string (strB n3))).set 3 (.string ⟨#[]⟩)).set 4 (.string ⟨#[]⟩)).set 5 (.int .i64 0)).set 6 (.int .i64 0)).set 7 (.bool false)).set 8 (.int .i64 0)).set 9 (.int .i64 0)).set 10 (.string ⟨#[]⟩)).set 11 (.slice none 0 0))) rfl ?_
    have ho := (((((((((((((HO5.out.put J 2 (.string (strB n3)) hwJ).put w.heap.size 0 (.int .i64 ((5 : Nat) : Int)) (Nat.le_refl _)).put w.heap.size 1 (.string (strB n2)) (Nat.le_refl _)).put w.heap.size 2 (.string (strB n3)) (Nat.le_refl _)).put w.heap.size 3 (.string ⟨#[]⟩) (Nat.le_refl _)).put w.heap.size 4 (.string ⟨#[]⟩) (Nat.le_refl _)).put w.heap.size 5 (.int .i64 0) (Nat.le_refl _)).put w.heap.size 6 (.int .i64 0) (Nat.le_refl _)).put w.heap.size 7 (.bool false) (Nat.le_refl _)).put w.heap.size 8 (.int .i64 0) (Nat.le_refl _)).put w.heap.size 9 (.int .i64 0) (Nat.le_refl _)).put w.heap.size 10 (.string ⟨#[]⟩) (Nat.le_refl _)).put w.heap.size 11 (.slice none 0 0) (Nat.le_refl _))
    exact ⟨ho, .inl ⟨⟨{ dp0 5 n2 with co := strB n3 }, none, 0⟩, a3, rfl, fun hp => absurd hp (by simp [dp0]), H0.out.fin HP5.out (by rw [put_ne _ _ _ _ _ hne, put_ne _ _ _ _ _ hne, put_ne _ _ _ _ _ hne, put_ne _ _ _ _ _ hne, put_ne _ _ _ _ _ hne, put_ne _ _ _ _ _ hne, put_ne _ _ _ _ _ hne, put_ne _ _ _ _ _ hne, put_ne _ _ _ _ _ hne, put_ne _ _ _ _ _ hne, put_ne _ _ _ _ _ hne, put_ne _ _ _ _ _ hne, put_ne _ _ _ _ _ hnJ]) ho, by show pChange _ = _; rw [HE2.out]; show (pName ((bs s).drop a2)).bind _ = _; rw [HT3.out]; rfl, by simp [dp0], fun p hp => by cases hp⟩⟩
  · subst e
    rw [pRest_6] at HE2
    go_wp2_with fail
    clear d0
    refine (qname_any b s a2 _ HP4.out hs).mono ?_
    rintro en w5 ⟨ho, ⟨n3, a3, rfl, hp, hto⟩ | ⟨a3, e1, rfl, hp, hno⟩⟩
    case inr =>
      have HPx := Lib.hid hp; have HOx := Lib.hid (HO4.out.trans ho)
      have HN : Hid (QNo pChange s a a3 e1) := ⟨hno.1, by rw [HE2.out]; show (pName ((bs s).drop a2)).bind _ = _; rw [hno.2]; rfl⟩
      clear hp ho hno
      go_wp2_with fail
      exact ⟨rfl, HOx.out, .inr ⟨_, _, rfl, HPx.out, HN.out⟩⟩
    have HT3 : Hid (QTo pName s a2 n3 a3) := hto
    have HP5 := Lib.hid hp; have HO5 := Lib.hid (HO4.out.trans ho); have HR5 := Lib.hid (HR4.out.off ho (fun h => hne h.symm)); have HJ5 := Lib.hid (HJ4.out.off ho (fun h => hnJ h.symm))
    clear hp ho hto
    have c2 := HJ5.out.at 2 _ rfl; have q2 := HJ5.out.thaw 2
    go_wp2_with fail
    clear c2 q2
    have HJ6 := Lib.hid (HJ5.out.set 2 (.string (strB n3)))
    have HR6 := Lib.hid (HR5.out.put J 2 (.string (strB n3)) hrJ)
    have HO6 := Lib.hid (HO5.out.put J 2 (.string (strB n3)) hwJ)
    have HP6 := Lib.hid (H0.out.fin HP5.out (by rw [put_ne _ _ _ _ _ hnJ]) HO6.out)
    refine (qword_any b s a3 ⟨#[116, 111]⟩ _ HP6.out hs).mono ?_
    rintro en w7 ⟨ho, ⟨_, a4, rfl, hp, hto⟩ | ⟨a4, e1, rfl, hp, hno⟩⟩
    case inr =>
      have HPx := Lib.hid hp; have HOx := Lib.hid (HO6.out.trans ho)
      have hno : QNo (un (pWord toT)) s a3 a4 e1 := hno
      have HN : Hid (QNo pChange s a a4 e1) := ⟨hno.1, by rw [HE2.out]; show (pName ((bs s).drop a2)).bind _ = _; rw [HT3.out]; show (pWord toT ((bs s).drop a3)).bind _ = _; rw [un_er hno]; rfl⟩
      clear hp ho hno
      go_wp2_with fail
      exact ⟨rfl, HOx.out, .inr ⟨_, _, rfl, HPx.out, HN.out⟩⟩
    have HT4 : Hid (QTo (un (pWord toT)) s a3 () a4) := hto
    have HP7 := Lib.hid hp; have HO7 := Lib.hid (HO6.out.trans ho); have HR7 := Lib.hid (HR6.out.off ho (fun h => hne h.symm)); have HJ7 := Lib.hid (HJ6.out.off ho (fun h => hnJ h.symm))
    clear hp ho hto
    go_wp2_with fail
    refine (qname_any b s a4 _ HP7.out hs).mono ?_
    rintro en w8 ⟨ho, ⟨n5, a5, rfl, hp, hto⟩ | ⟨a5, e1, rfl, hp, hno⟩⟩
    case inr =>
      have HPx := Lib.hid hp; have HOx := Lib.hid (HO7.out.trans ho)
      have HN : Hid (QNo pChange s a a5 e1) := ⟨hno.1, by rw [HE2.out]; show (pName ((bs s).drop a2)).bind _ = _; rw [HT3.out]; show (pWord toT ((bs s).drop a3)).bind _ = _; rw [un_ok HT4.out]; show (pName ((bs s).drop a4)).bind _ = _; rw [hno.2]; rfl⟩
      clear hp ho hno
      go_wp2_with fail
      exact ⟨rfl, HOx.out, .inr ⟨_, _, rfl, HPx.out, HN.out⟩⟩
    have HT5 : Hid (QTo pName s a4 n5 a5) := hto
    have HP8 := Lib.hid hp; have HO8 := Lib.hid (HO7.out.trans ho); have HR8 := Lib.hid (HR7.out.off ho (fun h => hne h.symm)); have HJ8 := Lib.hid (HJ7.out.off ho (fun h => hnJ h.symm))
    clear hp ho hto
    have d0 := HJ8.out.at 0 _ rfl; have r0 := HR8.out.at 0 _ rfl; have p0 := HR8.out.thaw 0
    have d1 := HJ8.out.at 1 _ rfl; have r1 := HR8.out.at 1 _ rfl; have p1 := HR8.out.thaw 1
    have d2 := HJ8.out.at 2 _ rfl; have r2 := HR8.out.at 2 _ rfl; have p2 := HR8.out.thaw 2
    have d3 := HJ8.out.at 3 _ rfl; have r3 := HR8.out.at 3 _ rfl; have p3 := HR8.out.thaw 3
    have d4 := HJ8.out.at 4 _ rfl; have r4 := HR8.out.at 4 _ rfl; have p4 := HR8.out.thaw 4
    have d5 := HJ8.out.at 5 _ rfl; have r5 := HR8.out.at 5 _ rfl; have p5 := HR8.out.thaw 5
    have d6 := HJ8.out.at 6 _ rfl; have r6 := HR8.out.at 6 _ rfl; have p6 := HR8.out.thaw 6
    have d7 := HJ8.out.at 7 _ rfl; have r7 := HR8.out.at 7 _ rfl; have p7 := HR8.out.thaw 7
    have d8 := HJ8.out.at 8 _ rfl; have r8 := HR8.out.at 8 _ rfl; have p8 := HR8.out.thaw 8
    have d9 := HJ8.out.at 9 _ rfl; have r9 := HR8.out.at 9 _ rfl; have p9 := HR8.out.thaw 9
    have d10 := HJ8.out.at 10 _ rfl; have r10 := HR8.out.at 10 _ rfl; have p10 := HR8.out.thaw 10
    have d11 := HJ8.out.at 11 _ rfl; have r11 := HR8.out.at 11 _ rfl; have p11 := HR8.out.thaw 11
    have q3 := HJ8.out.thaw 3
    go_wp2_with fail
    refine bodyPost_ret (results_kD rfl _ rfl (((((((((((((HR8.out.put J 3 (.string (strB n5)) hrJ).set 0 (.int .i64 ((6 : Nat) : Int))).set 1 (.string (strB n2))).set 2 (.string (strB n3))).set 3 (.string (strB n5))).set 4 (.string ⟨#[]⟩)).set 5 (.int .i64 0)).set 6 (.int .i64 0)).set 7 (.bool false)).set 8 (.int .i64 0)).set 9 (.int .i64 0)).set 10 (.string ⟨#[]⟩)).set 11 (.slice none 0 0))) rfl ?_
    have ho := (((((((((((((HO8.out.put J 3 (.string (strB n5)) hwJ).put w.heap.size 0 (.int .i64 ((6 : Nat) : Int)) (Nat.le_refl _)).put w.heap.size 1 (.string (strB n2)) (Nat.le_refl _)).put w.heap.size 2 (.string (strB n3)) (Nat.le_refl _)).put w.heap.size 3 (.string (strB n5)) (Nat.le_refl _)).put w.heap.size 4 (.string ⟨#[]⟩) (Nat.le_refl _)).put w.heap.size 5 (.int .i64 0) (Nat.le_refl _)).put w.heap.size 6 (.int .i64 0) (Nat.le_refl _)).put w.heap.size 7 (.bool false) (Nat.le_refl _)).put w.heap.size 8 (.int .i64 0) (Nat.le_refl _)).put w.heap.size 9 (.int .i64 0) (Nat.le_refl _)).put w.heap.size 10 (.string ⟨#[]⟩) (Nat.le_refl _)).put w.heap.size 11 (.slice none 0 0) (Nat.le_refl _))
    exact ⟨ho, .inl ⟨⟨{ dp0 6 n2 with co := strB n3, «to» := strB n5 }, none, 0⟩, a5, rfl, fun hp => absurd hp (by simp [dp0]), H0.out.fin HP8.out (by rw [put_ne _ _ _ _ _ hne, put_ne _ _ _ _ _ hne, put_ne _ _ _ _ _ hne, put_ne _ _ _ _ _ hne, put_ne _ _ _ _ _ hne, put_ne _ _ _ _ _ hne, put_ne _ _ _ _ _ hne, put_ne _ _ _ _ _ hne, put_ne _ _ _ _ _ hne, put_ne _ _ _ _ _ hne, put_ne _ _ _ _ _ hne, put_ne _ _ _ _ _ hne, put_ne _ _ _ _ _ hnJ]) ho, by show pChange _ = _; rw [HE2.out]; show (pName ((bs s).drop a2)).bind _ = _; rw [HT3.out]; show (pWord toT ((bs s).drop a3)).bind _ = _; rw [un_ok HT4.out]; show (pName ((bs s).drop a4)).bind _ = _; rw [HT5.out]; rfl, by simp [dp0], fun p hp => by cases hp⟩⟩
  · subst e
    rw [pRest_7] at HE2
    go_wp2_with fail
    clear d0
    refine (qname_any b s a2 _ HP4.out hs).mono ?_
    rintro en w5 ⟨ho, ⟨n3, a3, rfl, hp, hto⟩ | ⟨a3, e1, rfl, hp, hno⟩⟩
    case inr =>
      have HPx := Lib.hid hp; have HOx := Lib.hid (HO4.out.trans ho)
      have HN : Hid (QNo pChange s a a3 e1) := ⟨hno.1, by rw [HE2.out]; show (pName ((bs s).drop a2)).bind _ = _; rw [hno.2]; rfl⟩
      clear hp ho hno
      go_wp2_with fail
      exact ⟨rfl, HOx.out, .inr ⟨_, _, rfl, HPx.out, HN.out⟩⟩
    have HT3 : Hid (QTo pName s a2 n3 a3) := hto
    have HP5 := Lib.hid hp; have HO5 := Lib.hid (HO4.out.trans ho); have HR5 := Lib.hid (HR4.out.off ho (fun h => hne h.symm)); have HJ5 := Lib.hid (HJ4.out.off ho (fun h => hnJ h.symm))
    clear hp ho hto
    have c2 := HJ5.out.at 2 _ rfl; have q2 := HJ5.out.thaw 2
    go_wp2_with fail
    clear c2 q2
    have HJ6 := Lib.hid (HJ5.out.set 2 (.string (strB n3)))
    have HR6 := Lib.hid (HR5.out.put J 2 (.string (strB n3)) hrJ)
    have HO6 := Lib.hid (HO5.out.put J 2 (.string (strB n3)) hwJ)
    have HP6 := Lib.hid (H0.out.fin HP5.out (by rw [put_ne _ _ _ _ _ hnJ]) HO6.out)
    refine (qkind_any b s a3 _ HP6.out hs).mono ?_
    rintro en w7 ⟨ho, ⟨⟨tk, tm⟩, a4, rfl, hp, hto⟩ | ⟨a4, e1, rfl, hp, hno⟩⟩
    case inr =>
      have HPx := Lib.hid hp; have HOx := Lib.hid (HO6.out.trans ho)
      have HN : Hid (QNo pChange s a a4 e1) := ⟨hno.1, by rw [HE2.out]; show (pName ((bs s).drop a2)).bind _ = _; rw [HT3.out]; show (pKind ((bs s).drop a3)).bind _ = _; rw [hno.2]; rfl⟩
      clear hp ho hno
      go_wp2_with fail
      exact ⟨rfl, HOx.out, .inr ⟨_, _, rfl, HPx.out, HN.out⟩⟩
    have HT4 : Hid (QTo pKind s a3 (tk, tm) a4) := hto
    have HP7 := Lib.hid hp; have HO7 := Lib.hid (HO6.out.trans ho); have HR7 := Lib.hid (HR6.out.off ho (fun h => hne h.symm)); have HJ7 := Lib.hid (HJ6.out.off ho (fun h => hnJ h.symm))
    clear hp ho hto
    have d0 := HJ7.out.at 0 _ rfl; have r0 := HR7.out.at 0 _ rfl; have p0 := HR7.out.thaw 0
    have d1 := HJ7.out.at 1 _ rfl; have r1 := HR7.out.at 1 _ rfl; have p1 := HR7.out.thaw 1
    have d2 := HJ7.out.at 2 _ rfl; have r2 := HR7.out.at 2 _ rfl; have p2 := HR7.out.thaw 2
    have d3 := HJ7.out.at 3 _ rfl; have r3 := HR7.out.at 3 _ rfl; have p3 := HR7.out.thaw 3
    have d4 := HJ7.out.at 4 _ rfl; have r4 := HR7.out.at 4 _ rfl; have p4 := HR7.out.thaw 4
    have d5 := HJ7.out.at 5 _ rfl; have r5 := HR7.out.at 5 _ rfl; have p5 := HR7.out.thaw 5
    have d6 := HJ7.out.at 6 _ rfl; have r6 := HR7.out.at 6 _ rfl; have p6 := HR7.out.thaw 6
    have d7 := HJ7.out.at 7 _ rfl; have r7 := HR7.out.at 7 _ rfl; have p7 := HR7.out.thaw 7
    have d8 := HJ7.out.at 8 _ rfl; have r8 := HR7.out.at 8 _ rfl; have p8 := HR7.out.thaw 8
    have d9 := HJ7.out.at 9 _ rfl; have r9 := HR7.out.at 9 _ rfl; have p9 := HR7.out.thaw 9
    have d10 := HJ7.out.at 10 _ rfl; have r10 := HR7.out.at 10 _ rfl; have p10 := HR7.out.thaw 10
    have d11 := HJ7.out.at 11 _ rfl; have r11 := HR7.out.at 11 _ rfl; have p11 := HR7.out.thaw 11
    have q5 := HJ7.out.thaw 5
    have q6 := HJ7.out.thaw 6
    go_wp2_with fail
    refine bodyPost_ret (results_kD rfl _ rfl ((((((((((((((HR7.out.put J 5 (.int .i64 tk) hrJ).put J 6 (.int .i64 tm) hrJ).set 0 (.int .i64 ((7 : Nat) : Int))).set 1 (.string (strB n2))).set 2 (.string (strB n3))).set 3 (.string ⟨#[]⟩)).set 4 (.string ⟨#[]⟩)).set 5 (.int .i64 tk)).set 6 (.int .i64 tm)).set 7 (.bool false)).set 8 (.int .i64 0)).set 9 (.int .i64 0)).set 10 (.string ⟨#[]⟩)).set 11 (.slice none 0 0))) rfl ?_
    have ho := ((((((((((((((HO7.out.put J 5 (.int .i64 tk) hwJ).put J 6 (.int .i64 tm) hwJ).put w.heap.size 0 (.int .i64 ((7 : Nat) : Int)) (Nat.le_refl _)).put w.heap.size 1 (.string (strB n2)) (Nat.le_refl _)).put w.heap.size 2 (.string (strB n3)) (Nat.le_refl _)).put w.heap.size 3 (.string ⟨#[]⟩) (Nat.le_refl _)).put w.heap.size 4 (.string ⟨#[]⟩) (Nat.le_refl _)).put w.heap.size 5 (.int .i64 tk) (Nat.le_refl _)).put w.heap.size 6 (.int .i64 tm) (Nat.le_refl _)).put w.heap.size 7 (.bool false) (Nat.le_refl _)).put w.heap.size 8 (.int .i64 0) (Nat.le_refl _)).put w.heap.size 9 (.int .i64 0) (Nat.le_refl _)).put w.heap.size 10 (.string ⟨#[]⟩) (Nat.le_refl _)).put w.heap.size 11 (.slice none 0 0) (Nat.le_refl _))
    exact ⟨ho, .inl ⟨⟨{ dp0 7 n2 with co := strB n3, tk := tk, tm := tm }, none, 0⟩, a4, rfl, fun hp => absurd hp (by simp [dp0]), H0.out.fin HP7.out (by rw [put_ne _ _ _ _ _ hne, put_ne _ _ _ _ _ hne, put_ne _ _ _ _ _ hne, put_ne _ _ _ _ _ hne, put_ne _ _ _ _ _ hne, put_ne _ _ _ _ _ hne, put_ne _ _ _ _ _ hne, put_ne _ _ _ _ _ hne, put_ne _ _ _ _ _ hne, put_ne _ _ _ _ _ hne, put_ne _ _ _ _ _ hne, put_ne _ _ _ _ _ hne, put_ne _ _ _ _ _ hnJ, put_ne _ _ _ _ _ hnJ]) ho, by show pChange _ = _; rw [HE2.out]; show (pName ((bs s).drop a2)).bind _ = _; rw [HT3.out]; show (pKind ((bs s).drop a3)).bind _ = _; rw [HT4.out]; rfl, by simp [dp0], fun p hp => by cases hp⟩⟩
  · subst e
    rw [pRest_8] at HE2
    go_wp2_with fail
    clear d0
    refine (qname_any b s a2 _ HP4.out hs).mono ?_
    rintro en w5 ⟨ho, ⟨n3, a3, rfl, hp, hto⟩ | ⟨a3, e1, rfl, hp, hno⟩⟩
    case inr =>
      have HPx := Lib.hid hp; have HOx := Lib.hid (HO4.out.trans ho)
      have HN : Hid (QNo pChange s a a3 e1) := ⟨hno.1, by rw [HE2.out]; show (pName ((bs s).drop a2)).bind _ = _; rw [hno.2]; rfl⟩
      clear hp ho hno
      go_wp2_with fail
      exact ⟨rfl, HOx.out, .inr ⟨_, _, rfl, HPx.out, HN.out⟩⟩
    have HT3 : Hid (QTo pName s a2 n3 a3) := hto
    have HP5 := Lib.hid hp; have HO5 := Lib.hid (HO4.out.trans ho); have HR5 := Lib.hid (HR4.out.off ho (fun h => hne h.symm)); have HJ5 := Lib.hid (HJ4.out.off ho (fun h => hnJ h.symm))
    clear hp ho hto
    have c2 := HJ5.out.at 2 _ rfl; have q2 := HJ5.out.thaw 2
    go_wp2_with fail
    clear c2 q2
    have HJ6 := Lib.hid (HJ5.out.set 2 (.string (strB n3)))
    have HR6 := Lib.hid (HR5.out.put J 2 (.string (strB n3)) hrJ)
    have HO6 := Lib.hid (HO5.out.put J 2 (.string (strB n3)) hwJ)
    have HP6 := Lib.hid (H0.out.fin HP5.out (by rw [put_ne _ _ _ _ _ hnJ]) HO6.out)
    refine (qvalue_any b s a3 _ HP6.out hs).mono ?_
    rintro en w7 ⟨ho, ⟨⟨vk, vn, vt⟩, a4, rfl, hp, hto⟩ | ⟨a4, e1, rfl, hp, hno⟩⟩
    case inr =>
      have HPx := Lib.hid hp; have HOx := Lib.hid (HO6.out.trans ho)
      have HN : Hid (QNo pChange s a a4 e1) := ⟨hno.1, by rw [HE2.out]; show (pName ((bs s).drop a2)).bind _ = _; rw [HT3.out]; show (pVal true ((bs s).drop a3)).bind _ = _; rw [hno.2]; rfl⟩
      clear hp ho hno
      go_wp2_with fail
      exact ⟨rfl, HOx.out, .inr ⟨_, _, rfl, HPx.out, HN.out⟩⟩
    have HT4 : Hid (QTo (pVal true) s a3 (vk, vn, vt) a4) := hto
    have HP7 := Lib.hid hp; have HO7 := Lib.hid (HO6.out.trans ho); have HR7 := Lib.hid (HR6.out.off ho (fun h => hne h.symm)); have HJ7 := Lib.hid (HJ6.out.off ho (fun h => hnJ h.symm))
    clear hp ho hto
    have d0 := HJ7.out.at 0 _ rfl; have r0 := HR7.out.at 0 _ rfl; have p0 := HR7.out.thaw 0
    have d1 := HJ7.out.at 1 _ rfl; have r1 := HR7.out.at 1 _ rfl; have p1 := HR7.out.thaw 1
    have d2 := HJ7.out.at 2 _ rfl; have r2 := HR7.out.at 2 _ rfl; have p2 := HR7.out.thaw 2
    have d3 := HJ7.out.at 3 _ rfl; have r3 := HR7.out.at 3 _ rfl; have p3 := HR7.out.thaw 3
    have d4 := HJ7.out.at 4 _ rfl; have r4 := HR7.out.at 4 _ rfl; have p4 := HR7.out.thaw 4
    have d5 := HJ7.out.at 5 _ rfl; have r5 := HR7.out.at 5 _ rfl; have p5 := HR7.out.thaw 5
    have d6 := HJ7.out.at 6 _ rfl; have r6 := HR7.out.at 6 _ rfl; have p6 := HR7.out.thaw 6
    have d7 := HJ7.out.at 7 _ rfl; have r7 := HR7.out.at 7 _ rfl; have p7 := HR7.out.thaw 7
    have d8 := HJ7.out.at 8 _ rfl; have r8 := HR7.out.at 8 _ rfl; have p8 := HR7.out.thaw 8
    have d9 := HJ7.out.at 9 _ rfl; have r9 := HR7.out.at 9 _ rfl; have p9 := HR7.out.thaw 9
    have d10 := HJ7.out.at 10 _ rfl; have r10 := HR7.out.at 10 _ rfl; have p10 := HR7.out.thaw 10
    have d11 := HJ7.out.at 11 _ rfl; have r11 := HR7.out.at 11 _ rfl; have p11 := HR7.out.thaw 11
    have q8 := HJ7.out.thaw 8
    have q9 := HJ7.out.thaw 9
    have q10 := HJ7.out.thaw 10
    go_wp2_with fail
    refine bodyPost_ret (results_kD rfl _ rfl (((((((((((((((HR7.out.put J 8 (.int .i64 vk) hrJ).put J 9 (.int .i64 vn) hrJ).put J 10 (.string (strB vt)) hrJ).set 0 (.int .i64 ((8 : Nat) : Int))).set 1 (.string (strB n2))).set 2 (.string (strB n3))).set 3 (.string ⟨#[]⟩)).set 4 (.string ⟨#[]⟩)).set 5 (.int .i64 0)).set 6 (.int .i64 0)).set 7 (.bool false)).set 8 (.int .i64 vk)).set 9 (.int .i64 vn)).set 10 (.string (strB vt))).set 11 (.slice none 0 0))) rfl ?_
    have ho := (((((((((((((((HO7.out.put J 8 (.int .i64 vk) hwJ).put J 9 (.int .i64 vn) hwJ).put J 10 (.string (strB vt)) hwJ).put w.heap.size 0 (.int .i64 ((8 : Nat) : Int)) (Nat.le_refl _)).put w.heap.size 1 (.string (strB n2)) (Nat.le_refl _)).put w.heap.size 2 (.string (strB n3)) (Nat.le_refl _)).put w.heap.size 3 (.string ⟨#[]⟩) (Nat.le_refl _)).put w.heap.size 4 (.string ⟨#[]⟩) (Nat.le_refl _)).put w.heap.size 5 (.int .i64 0) (Nat.le_refl _)).put w.heap.size 6 (.int .i64 0) (Nat.le_refl _)).put w.heap.size 7 (.bool false) (Nat.le_refl _)).put w.heap.size 8 (.int .i64 vk) (Nat.le_refl _)).put w.heap.size 9 (.int .i64 vn) (Nat.le_refl _)).put w.heap.size 10 (.string (strB vt)) (Nat.le_refl _)).put w.heap.size 11 (.slice none 0 0) (Nat.le_refl _))
    exact ⟨ho, .inl ⟨⟨{ dp0 8 n2 with co := strB n3, dk := vk, dn := vn, ds := strB vt }, none, 0⟩, a4, rfl, fun hp => absurd hp (by simp [dp0]), H0.out.fin HP7.out (by rw [put_ne _ _ _ _ _ hne, put_ne _ _ _ _ _ hne, put_ne _ _ _ _ _ hne, put_ne _ _ _ _ _ hne, put_ne _ _ _ _ _ hne, put_ne _ _ _ _ _ hne, put_ne _ _ _ _ _ hne, put_ne _ _ _ _ _ hne, put_ne _ _ _ _ _ hne, put_ne _ _ _ _ _ hne, put_ne _ _ _ _ _ hne, put_ne _ _ _ _ _ hne, put_ne _ _ _ _ _ hnJ, put_ne _ _ _ _ _ hnJ, put_ne _ _ _ _ _ hnJ]) ho, by show pChange _ = _; rw [HE2.out]; show (pName ((bs s).drop a2)).bind _ = _; rw [HT3.out]; show (pVal true ((bs s).drop a3)).bind _ = _; rw [HT4.out]; rfl, by simp [dp0], fun p hp => by cases hp⟩⟩
end Go.Proofs.YtebldfnocpcddaaGreatDoor

/-
  The program's Parse of changes (layer 10): its deferred closure, which recovers; the whole.
-/
namespace Go.Proofs.YtebldfnocpcddaaGreatDoor
open Go.RowKit

/-- the world behind the closure that has recovered -/
def caught (w : World) (r1 r2 r3 : Nat) (a e : Nat) : World :=
  ((((((((((((((w.setCell ⟨r1, 0, none⟩ (.int .i64 0)).setCell ⟨r1, 1, none⟩ (.string ⟨#[]⟩)).setCell ⟨r1, 2, none⟩ (.string ⟨#[]⟩)).setCell ⟨r1, 3, none⟩ (.string ⟨#[]⟩)).setCell ⟨r1, 4, none⟩ (.string ⟨#[]⟩)).setCell ⟨r1, 5, none⟩ (.int .i64 0)).setCell ⟨r1, 6, none⟩ (.int .i64 0)).setCell ⟨r1, 7, none⟩ (.bool false)).setCell ⟨r1, 8, none⟩ (.int .i64 0)).setCell ⟨r1, 9, none⟩ (.int .i64 0)).setCell ⟨r1, 10, none⟩ (.string ⟨#[]⟩)).setCell ⟨r1, 11, none⟩ (.slice none 0 0)).setCell ⟨r2, 0, none⟩ (.int .i64 (a : Int))).setCell ⟨r3, 0, none⟩ (.int .i64 (e : Int)))
set_option maxRecDepth 100000 in
set_option maxHeartbeats 3200000 in
theorem catch_pan (P r1 r2 r3 a e : Nat) (s : ByteArray) (older : List PanicEntry) (v0 v1 v2 v3 v4 v5 v6 v7 v8 v9 v10 v11 u2 u3 : Value) (w : World) (hP : Bk 63 w P [.string s, .int .i64 (a : Int)])
    (h1 : Bk 28 w r1 [v0, v1, v2, v3, v4, v5, v6, v7, v8, v9, v10, v11]) (h2 : Bk 3 w r2 [u2]) (h3 : Bk 31 w r3 [u3]) (n1 : P ≠ r1) (n2 : P ≠ r2) (n3 : P ≠ r3) (n4 : r1 ≠ r2) (n5 : r1 ≠ r3) (n6 : r2 ≠ r3) :
    CallsD Tryz.prog 30 #[.pointer (some ⟨P, 0, none⟩), .pointer (some ⟨r1, 0, none⟩), .pointer (some ⟨r2, 0, none⟩), .pointer (some ⟨r3, 0, none⟩)] (.panicking ({ v := .iface 31 (.int .i64 (e : Int)), recovered := false } :: older)) w fun en u' w' =>
      en = .returned (.tuple #[]) ∧ u' = .panicking ({ v := .iface 31 (.int .i64 (e : Int)), recovered := true } :: older) ∧ w' = (caught w r1 r2 r3 a e).drew := by
  have p1 := hP.at 1 _ rfl
  have q0 := h1.at 0 _ rfl; have q1 := h1.at 1 _ rfl; have q2 := h1.at 2 _ rfl; have q3 := h1.at 3 _ rfl; have q4 := h1.at 4 _ rfl; have q5 := h1.at 5 _ rfl
  have q6 := h1.at 6 _ rfl; have q7 := h1.at 7 _ rfl; have q8 := h1.at 8 _ rfl; have q9 := h1.at 9 _ rfl; have q10 := h1.at 10 _ rfl; have q11 := h1.at 11 _ rfl
  have f0 := h1.thaw 0; have f1 := h1.thaw 1; have f2 := h1.thaw 2; have f3 := h1.thaw 3; have f4 := h1.thaw 4; have f5 := h1.thaw 5
  have f6 := h1.thaw 6; have f7 := h1.thaw 7; have f8 := h1.thaw 8; have f9 := h1.thaw 9; have f10 := h1.thaw 10; have f11 := h1.thaw 11
  have g2 := h2.at 0 _ rfl; have g3 := h3.at 0 _ rfl; have k2 := h2.thaw 0; have k3 := h3.thaw 0
  have m1 : r1 ≠ P := fun e => n1 e.symm
  have m2 : r2 ≠ P := fun e => n2 e.symm
  have m3 : r3 ≠ P := fun e => n3 e.symm
  have m4 : r2 ≠ r1 := fun e => n4 e.symm
  have m5 : r3 ≠ r1 := fun e => n5 e.symm
  have m6 : r3 ≠ r2 := fun e => n6 e.symm
  have hta : ∀ W : World, (Instr.typeAssert (.iface 31 (.int .i64 (e : Int))) 20 31 false).run Tryz.prog W = .ok (.int .i64 (e : Int)) W := fun W => by kernel_rfl
  refine callsD_of_wpS Tryz.func30 rfl fun c₀ cs hu => ?_
  apply wpS_seq
  apply wpS_region
  simp [wpOpsS, go_sem, recoverD, hu, Tryz.ntmps30, Exit.thenS]
  apply wpS_seq
  apply wpS_region
  simp [wpOpsS, go_sem, Exit.thenS]
  refine wpS_cond (t := true) (by simp [Act.eval, Array.replicate]) ?_
  simp only [if_true]
  refine wpS_of_wp ?_
  go_region
  all_goals
    clear hta p1 q0 q1 q2 q3 q4 q5 q6 q7 q8 q9 q10 q11 f0 f1 f2 f3 f4 f5 f6 f7 f8 f9 f10 f11 g2 g3 k2 k3 hP h1 h2 h3
    simp [bodyPostS, results, Tryz.results30]
    rfl
theorem catch_not (P r1 r2 r3 : Nat) (w : World) :
    CallsD Tryz.prog 30 #[.pointer (some ⟨P, 0, none⟩), .pointer (some ⟨r1, 0, none⟩), .pointer (some ⟨r2, 0, none⟩), .pointer (some ⟨r3, 0, none⟩)] .returning w fun en u' w' => en = .returned (.tuple #[]) ∧ u' = .returning ∧ w' = w := by
  refine callsD_of_wpS Tryz.func30 rfl fun c₀ cs hu => ?_
  apply wpS_seq
  apply wpS_region
  simp [wpOpsS, go_sem, recoverD, hu, Tryz.ntmps30, Exit.thenS]
  apply wpS_seq
  apply wpS_region
  simp [wpOpsS, go_sem, Exit.thenS]
  refine wpS_cond (t := false) (by simp [Act.eval, Array.replicate]) ?_
  simp only [Bool.false_eq_true, if_false]
  refine wpS_of_wp (wp_skip ?_)
  cases c₀
  simp_all [bodyPostS, results, Tryz.results30]
end Go.Proofs.YtebldfnocpcddaaGreatDoor
