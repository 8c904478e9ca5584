/-
  Texts that the proof needs, one behind the other: DtxRP5C, DtxRP6C.
-/
import Derived.Test.YtebldfnocpcddaaGreatDoorPart23
import Derived.Test.YtebldfnocpcddaaGreatDoorPart27
import Derived.Test.YtebldfnocpcddaaGreatDoorPart16
import Derived.Test.YtebldfnocpcddaaGreatDoorPart26

/-
  The document's own parser of changes (layer 10): a column.
-/
namespace Go.Proofs.YtebldfnocpcddaaGreatDoor
open Go.RowKit

section
variable {α β : Type} {m : List UInt8 → Except Er (α × List UInt8)} {s : ByteArray} {a a' e e' : Nat} {x : α}
theorem PTo.zero (h : PTo m s a e x a' 0) : e = 0 := by
  rcases h.2 with ⟨h1, _, h2⟩ | ⟨h1, _⟩
  · exact absurd h2.symm h1
  · exact h1
theorem PTo.q (h : PTo m s a 0 x a' 0) : QTo m s a x a' := by
  rcases h.2 with ⟨h1, _⟩ | ⟨_, ⟨_, h1⟩ | ⟨h1, _⟩⟩
  · exact absurd rfl h1
  · exact h1
  · exact absurd rfl h1
theorem PTo.qn (h : PTo m s a 0 x a' e') (he : e' ≠ 0) : QNo m s a a' e' := by
  rcases h.2 with ⟨h1, _⟩ | ⟨_, ⟨h1, _⟩ | ⟨_, h1⟩⟩
  · exact absurd rfl h1
  · exact absurd h1 he
  · exact ⟨he, h1⟩
theorem QTo.pto (h : QTo m s a x a') (ha : a' ≤ s.size) : PTo m s a 0 x a' 0 := ⟨ha, .inr ⟨rfl, .inl ⟨rfl, h⟩⟩⟩
theorem QNo.pto (h : QNo m s a a' e) (ha : a' ≤ s.size) (x : α) : PTo m s a 0 x a' e := ⟨ha, .inr ⟨rfl, .inr ⟨h.1, h.2⟩⟩⟩
theorem PTo.bindE (f : α × List UInt8 → Except Er (β × List UInt8)) (h : PTo m s a e x a' e') (he : e' ≠ 0) (y : β) : PTo (fun r => (m r).bind f) s a e y a' e' := by
  refine ⟨h.1, ?_⟩
  rcases h.2 with h1 | ⟨h0, ⟨h1, _⟩ | ⟨_, h1⟩⟩
  · exact .inl h1
  · exact absurd h1 he
  · refine .inr ⟨h0, .inr ⟨he, ?_⟩⟩
    show (m ((bs s).drop a)).bind f = _
    rw [h1]; rfl
end
theorem col_e {s : ByteArray} {a e a1 e1 a2 e2 : Nat} {n : List UInt8} {t : Int × Int} (h1 : PTo pName s a e n a1 e1) (h2 : PTo pKind s a1 e1 t a2 e2) (he : e2 ≠ 0) (x : Cb) : PTo pCol s a e x a2 e2 :=
  PTo.seq h1 (h2.bindE _ he x)
/-- a word that is there is taken -/
theorem want_yes {s : ByteArray} {k a' e' : Nat} {x : ByteArray} {z : Unit} (hk : k ≤ s.size) (h : PTo (fun r => (pWord (bs x) r).bind fun q => .ok ((), q)) s k 0 z a' e') (ht : twB s k x = true) : e' = 0 ∧ a' = twA s k x := by
  have h1 := tw_yes hk ht
  rcases h.2 with ⟨h2, _⟩ | ⟨_, ⟨h2, h3⟩ | ⟨h2, h3⟩⟩
  · exact absurd rfl h2
  · refine ⟨h2, ?_⟩
    have h4 : (pWord (bs x) ((bs s).drop k)).bind (fun q => Except.ok ((), q)) = .ok (z, (bs s).drop a') := h3
    rw [h1] at h4
    have h5 : (bs s).drop (twA s k x) = (bs s).drop a' := congrArg (fun q : Except Er (Unit × List UInt8) => match q with | .ok y => y.2 | .error _ => []) h4
    have h6 := congrArg List.length h5
    rw [List.length_drop, List.length_drop, bs_length] at h6
    have := twA_le (x := x) hk
    have := h.1
    omega
  · have h4 : (pWord (bs x) ((bs s).drop k)).bind (fun q => Except.ok ((), q)) = .error ((bs s).drop a', e') := h3
    rw [h1] at h4; cases h4
theorem twA_no {s x : ByteArray} {a : Nat} (h : twB s a x = false) : twA s a x = nb s a := by
  unfold twA
  rw [if_neg (by rw [h]; decide)]
theorem tw_nb {s x : ByteArray} {a : Nat} (ha : a ≤ s.size) : twB s (nb s a) x = twB s a x ∧ twA s (nb s a) x = twA s a x := by
  have e1 : twB s (nb s a) x = twB s a x := by unfold twB; rw [nb_drop ha, bl_bl]
  exact ⟨e1, by unfold twA; rw [e1, nb_nb ha]⟩
set_option maxRecDepth 100000 in
set_option maxHeartbeats 6400000 in
theorem rcolumn_any (b : Nat) (s : ByteArray) (a e : Nat) (w : World) (h : PBx 67 w b s a e) (ha : a ≤ s.size) (hs : s.size ≤ 1000000) :
    Calls Tryz.prog 65 #[.pointer (some ⟨b, 0, none⟩)] w fun en w' => PEnd 67 pCol (fun c => CV c) b s a e w en w' := by
  have hlt := h.lt
  have hne : b ≠ w.heap.size := by omega
  obtain ⟨wa, hwa⟩ : ∃ wa, w.alloc (.cells zC.toArray 56) = wa := ⟨_, rfl⟩
  have hba : Below w.heap.size w wa := by rw [← hwa]; exact (Below.refl _ _).alloc (Nat.le_refl _) _
  have HR0 : Hid (Bk 56 wa w.heap.size zC) := by rw [← hwa]; exact Bk.new w zC 56
  have Hwa := Lib.hid hwa; clear hwa
  have HO0 := Lib.hid (Off.of_below (S := fun k => k = b) hba)
  have HP0 := Lib.hid (h.below hba); clear hba h hlt
  go_enter Tryz.func65, Tryz.ntmps65
  go_wp2_with fail
  rw [Hwa.out]
  refine (rname_any b s a e _ HP0.out ha hs).mono ?_
  rintro en w1 ⟨n, a1, e1, rfl, hp, ho, hto⟩
  have HP1 := Lib.hid hp; have HO1 := Lib.hid (HO0.out.trans ho); have HR1 := Lib.hid (HR0.out.off ho (fun h => hne h.symm)); have HT1 := Lib.hid hto
  clear hp ho hto
  go_wp2_with fail
  refine (rkind_any b s a1 e1 _ HP1.out HT1.out.1 hs).mono ?_
  rintro en w2 ⟨⟨tk, tm⟩, a2, e2, rfl, hp, ho, hto⟩
  have HP2 := Lib.hid hp; have HO2 := Lib.hid (HO1.out.trans ho); have HR2 := Lib.hid (HR1.out.off ho (fun h => hne h.symm)); have HT2 := Lib.hid hto
  clear hp ho hto
  obtain ⟨J, hJ⟩ : ∃ J, w2.heap.size = J := ⟨_, rfl⟩
  obtain ⟨w3, hw3⟩ : ∃ w3, w2.alloc (.cells [.int .i64 0, .string (strB n), .int .i64 tk, .int .i64 tm, .bool false, .int .i64 0, .int .i64 0, .string ⟨#[]⟩].toArray 56) = w3 := ⟨_, rfl⟩
  have hb3 : Below w2.heap.size w2 w3 := by rw [← hw3]; exact (Below.refl _ _).alloc (Nat.le_refl _) _
  have HJ3 : Hid (Bk 56 w3 J [.int .i64 0, .string (strB n), .int .i64 tk, .int .i64 tm, .bool false, .int .i64 0, .int .i64 0, .string ⟨#[]⟩]) := by rw [← hw3, ← hJ]; exact Bk.new w2 _ _
  have HP3 := Lib.hid (HP2.out.below hb3); have HO3 := Lib.hid (HO2.out.then hb3); have HR3 := Lib.hid (HR2.out.below hb3)
  have hrJ : J ≠ w.heap.size := by have := HR2.out.lt; omega
  have hnJ : b ≠ J := by have := HP2.out.lt; omega
  have hwJ : w.heap.size ≤ J := by have := HR2.out.lt; omega
  have Hw3 := Lib.hid hw3; have HJe := Lib.hid hJ; clear hw3 hb3 hJ
  obtain ⟨c0, c1, c2⟩ := HP3.out.cells
  go_upto_region 2 with fail
  rw [Hw3.out]
  try rw [HJe.out]
  by_cases he2 : e2 = 0
  case neg =>
    have t0 : ((e2 : Int) == 0) = false := by simp; omega
    have HT := Lib.hid (col_e HT1.out HT2.out he2 ⟨0, strB n, tk, tm, false, 0, 0, ⟨#[]⟩⟩)
    clear he2
    have d0 := HJ3.out.at 0 _ rfl; have r0 := HR3.out.at 0 _ rfl; have p0 := HR3.out.thaw 0
    have d1 := HJ3.out.at 1 _ rfl; have r1 := HR3.out.at 1 _ rfl; have p1 := HR3.out.thaw 1
    have d2 := HJ3.out.at 2 _ rfl; have r2 := HR3.out.at 2 _ rfl; have p2 := HR3.out.thaw 2
    have d3 := HJ3.out.at 3 _ rfl; have r3 := HR3.out.at 3 _ rfl; have p3 := HR3.out.thaw 3
    have d4 := HJ3.out.at 4 _ rfl; have r4 := HR3.out.at 4 _ rfl; have p4 := HR3.out.thaw 4
    have d5 := HJ3.out.at 5 _ rfl; have r5 := HR3.out.at 5 _ rfl; have p5 := HR3.out.thaw 5
    have d6 := HJ3.out.at 6 _ rfl; have r6 := HR3.out.at 6 _ rfl; have p6 := HR3.out.thaw 6
    have d7 := HJ3.out.at 7 _ rfl; have r7 := HR3.out.at 7 _ rfl; have p7 := HR3.out.thaw 7
    go_wp2_with fail
    refine bodyPost_ret (results_kC rfl _ rfl ((((((((HR3.out.set 0 (.int .i64 0)).set 1 (.string (strB n))).set 2 (.int .i64 tk)).set 3 (.int .i64 tm)).set 4 (.bool false)).set 5 (.int .i64 0)).set 6 (.int .i64 0)).set 7 (.string ⟨#[]⟩))) rfl ?_
    exact ⟨⟨0, strB n, tk, tm, false, 0, 0, ⟨#[]⟩⟩, a2, e2, rfl, ((((((((HP3.out.put w.heap.size 0 (.int .i64 0) (fun h => hne h.symm)).put w.heap.size 1 (.string (strB n)) (fun h => hne h.symm)).put w.heap.size 2 (.int .i64 tk) (fun h => hne h.symm)).put w.heap.size 3 (.int .i64 tm) (fun h => hne h.symm)).put w.heap.size 4 (.bool false) (fun h => hne h.symm)).put w.heap.size 5 (.int .i64 0) (fun h => hne h.symm)).put w.heap.size 6 (.int .i64 0) (fun h => hne h.symm)).put w.heap.size 7 (.string ⟨#[]⟩) (fun h => hne h.symm)), ((((((((HO3.out.put w.heap.size 0 (.int .i64 0) (Nat.le_refl _)).put w.heap.size 1 (.string (strB n)) (Nat.le_refl _)).put w.heap.size 2 (.int .i64 tk) (Nat.le_refl _)).put w.heap.size 3 (.int .i64 tm) (Nat.le_refl _)).put w.heap.size 4 (.bool false) (Nat.le_refl _)).put w.heap.size 5 (.int .i64 0) (Nat.le_refl _)).put w.heap.size 6 (.int .i64 0) (Nat.le_refl _)).put w.heap.size 7 (.string ⟨#[]⟩) (Nat.le_refl _)), HT.out⟩
  subst he2
  obtain rfl : e1 = 0 := HT2.out.zero
  obtain rfl : e = 0 := HT1.out.zero
  have Q1 := Lib.hid HT1.out.q; have Q2 := Lib.hid HT2.out.q; have Hal := Lib.hid HT2.out.1
  clear HT1 HT2
  have t0 : (((0 : Nat) : Int) == 0) = true := rfl
  -- is it null?
  obtain ⟨y, hy⟩ : ∃ y, wdB s a2 = y := ⟨_, rfl⟩
  have HB1 : Hid (∀ w', PBx 67 w' b s a2 0 → Calls Tryz.prog 60 #[.pointer (some ⟨b, 0, none⟩)] w' fun en w'' => en = .returned (.string y) ∧ PBx 67 w'' b s (nb s a2) 0 ∧ Off (fun k => k = b) w' w'') := fun w' h' => by
    have := rpeek_any b s a2 0 y w' h' Hal.out hs (by rw [← hy]; show wd (bl _) = wd ((bs s).drop (nb s a2)); rw [nb_drop Hal.out])
    exact this
  have hty : bs y = nullT ↔ twB s a2 nullB = true := by rw [← hy]; exact (decide_eq_true_iff (p := wd (bl ((bs s).drop a2)) = bs nullB)).symm
  have Hnbl := Lib.hid (nb_le Hal.out).2
  have HA3 : Hid (twA s a2 nullB ≤ s.size) := twA_le Hal.out
  have hwn : bs nullB ≠ [40] ∧ bs nullB ≠ [41] ∧ bs nullB ≠ [44] := ⟨by decide, by decide, by decide⟩
  have hwd : bs defB ≠ [40] ∧ bs defB ≠ [41] ∧ bs defB ≠ [44] := ⟨by decide, by decide, by decide⟩
  have Hwn := Lib.hid hwn; have Hwd := Lib.hid hwd
  have hns : nullB.size = 4 := rfl
  have hds : defB.size = 7 := rfl
  clear hwn hwd hns hds hy
  obtain ⟨y2, hy2⟩ : ∃ y, wdB s (twA s a2 nullB) = y := ⟨_, rfl⟩
  have HB2 : Hid (∀ w', PBx 67 w' b s (twA s a2 nullB) 0 → Calls Tryz.prog 60 #[.pointer (some ⟨b, 0, none⟩)] w' fun en w'' => en = .returned (.string y2) ∧ PBx 67 w'' b s (nb s (twA s a2 nullB)) 0 ∧ Off (fun k => k = b) w' w'') := fun w' h' => by
    have := rpeek_any b s (twA s a2 nullB) 0 y2 w' h' HA3.out hs (by rw [← hy2]; show wd (bl _) = wd ((bs s).drop (nb s (twA s a2 nullB))); rw [nb_drop HA3.out])
    exact this
  have hty2 : bs y2 = defT ↔ twB s (twA s a2 nullB) defB = true := by rw [← hy2]; exact (decide_eq_true_iff (p := wd (bl ((bs s).drop (twA s a2 nullB))) = bs defB)).symm
  have Hty2 := Lib.hid hty2
  have Hnb3 := Lib.hid (nb_le HA3.out).2
  clear hty2 hy2
  cases htn : twB s a2 nullB
  · have t1 := neL (a := y) (l := [110, 117, 108, 108]) (fun h => by have := hty.1 h; rw [htn] at this; cases this)
    have HA : Hid (twA s a2 nullB = nb s a2) := twA_no htn
    clear hty
    have Htn := Lib.hid htn; clear htn
    go_wp2_with fail
    refine (HB1.out _ HP3.out).mono ?_
    rintro en w4 ⟨rfl, hp, ho⟩
    rw [← HA.out] at hp
    have HP4 := Lib.hid hp; have HO4 := Lib.hid (HO3.out.trans ho); have HR4 := Lib.hid (HR3.out.off ho (fun h => hne h.symm)); have HJ4 := Lib.hid (HJ3.out.off ho (fun h => hnJ h.symm))
    clear hp ho c0 c1 c2
    obtain ⟨c0, c1, c2⟩ := HP4.out.cells
    go_wp2_with fail
    have htn := Htn.out; clear Htn
    obtain ⟨c0, c1, c2⟩ := HP4.out.cells
    refine (HB2.out _ HP4.out).mono ?_
    rintro en w5 ⟨rfl, hp, ho⟩
    have HP5 := Lib.hid hp; have HO5 := Lib.hid (HO4.out.trans ho); have HR5 := Lib.hid (HR4.out.off ho (fun h => hne h.symm)); have HJ5 := Lib.hid (HJ4.out.off ho (fun h => hnJ h.symm))
    clear hp ho c0 c1 c2
    obtain ⟨c0, c1, c2⟩ := HP5.out.cells
    cases htd : twB s (twA s a2 nullB) defB
    · have t9 := neL (a := y2) (l := [100, 101, 102, 97, 117, 108, 116]) (fun h => by have := Hty2.out.1 h; rw [htd] at this; cases this)
      have HT : Hid (PTo pCol s a 0 (colOf n (tk, tm) false (0, 0, [])) (nb s (twA s a2 nullB)) 0) := by
        have h1 := pDef_no HA3.out htd
        have h2 : twA s (twA s a2 nullB) defB = nb s (twA s a2 nullB) := twA_no htd
        rw [h2] at h1
        have h3 := pCol_to Q1.out Q2.out Hal.out h1
        rw [htn] at h3
        exact h3.pto Hnb3.out
      clear htd
      have d0 := HJ5.out.at 0 _ rfl; have r0 := HR5.out.at 0 _ rfl; have p0 := HR5.out.thaw 0
      have d1 := HJ5.out.at 1 _ rfl; have r1 := HR5.out.at 1 _ rfl; have p1 := HR5.out.thaw 1
      have d2 := HJ5.out.at 2 _ rfl; have r2 := HR5.out.at 2 _ rfl; have p2 := HR5.out.thaw 2
      have d3 := HJ5.out.at 3 _ rfl; have r3 := HR5.out.at 3 _ rfl; have p3 := HR5.out.thaw 3
      have d4 := HJ5.out.at 4 _ rfl; have r4 := HR5.out.at 4 _ rfl; have p4 := HR5.out.thaw 4
      have d5 := HJ5.out.at 5 _ rfl; have r5 := HR5.out.at 5 _ rfl; have p5 := HR5.out.thaw 5
      have d6 := HJ5.out.at 6 _ rfl; have r6 := HR5.out.at 6 _ rfl; have p6 := HR5.out.thaw 6
      have d7 := HJ5.out.at 7 _ rfl; have r7 := HR5.out.at 7 _ rfl; have p7 := HR5.out.thaw 7
      go_wp2_with fail
      refine bodyPost_ret (results_kC rfl _ rfl ((((((((HR5.out.set 0 (.int .i64 0)).set 1 (.string (strB n))).set 2 (.int .i64 tk)).set 3 (.int .i64 tm)).set 4 (.bool false)).set 5 (.int .i64 0)).set 6 (.int .i64 0)).set 7 (.string ⟨#[]⟩))) rfl ?_
      exact ⟨(colOf n (tk, tm) false (0, 0, [])), _, 0, rfl, ((((((((HP5.out.put w.heap.size 0 (.int .i64 0) (fun h => hne h.symm)).put w.heap.size 1 (.string (strB n)) (fun h => hne h.symm)).put w.heap.size 2 (.int .i64 tk) (fun h => hne h.symm)).put w.heap.size 3 (.int .i64 tm) (fun h => hne h.symm)).put w.heap.size 4 (.bool false) (fun h => hne h.symm)).put w.heap.size 5 (.int .i64 0) (fun h => hne h.symm)).put w.heap.size 6 (.int .i64 0) (fun h => hne h.symm)).put w.heap.size 7 (.string ⟨#[]⟩) (fun h => hne h.symm)), ((((((((HO5.out.put w.heap.size 0 (.int .i64 0) (Nat.le_refl _)).put w.heap.size 1 (.string (strB n)) (Nat.le_refl _)).put w.heap.size 2 (.int .i64 tk) (Nat.le_refl _)).put w.heap.size 3 (.int .i64 tm) (Nat.le_refl _)).put w.heap.size 4 (.bool false) (Nat.le_refl _)).put w.heap.size 5 (.int .i64 0) (Nat.le_refl _)).put w.heap.size 6 (.int .i64 0) (Nat.le_refl _)).put w.heap.size 7 (.string ⟨#[]⟩) (Nat.le_refl _)), HT.out⟩
    · have t9 := eqL (a := y2) (l := [100, 101, 102, 97, 117, 108, 116]) (Hty2.out.2 htd)
      have Hd := Lib.hid (tw_nb (x := defB) HA3.out)
      have htd2 : twB s (nb s (twA s a2 nullB)) defB = true := Hd.out.1.trans htd
      have He := Lib.hid (pDef_eq HA3.out htd)
      have Htd2 := Lib.hid htd2
      clear htd htd2
      go_wp2_with fail
      refine (rwant_any b s _ 0 defB _ HP5.out Hnb3.out hs (by decide) Hwd.out).mono ?_
      rintro en w6 ⟨_, a4, e4, rfl, hp, ho, hto⟩
      obtain ⟨rfl, rfl⟩ := want_yes Hnb3.out hto Htd2.out
      rw [Hd.out.2] at hp hto
      have Hle5 : Hid (twA s (twA s a2 nullB) defB ≤ s.size) := twA_le HA3.out
      have HP6 := Lib.hid hp; have HO6 := Lib.hid (HO5.out.trans ho); have HR6 := Lib.hid (HR5.out.off ho (fun h => hne h.symm)); have HJ6 := Lib.hid (HJ5.out.off ho (fun h => hnJ h.symm))
      clear hp ho hto c0 c1 c2
      go_wp2_with fail
      refine (rvalue_any false b s _ 0 _ HP6.out Hle5.out hs).mono ?_
      rintro en w7 ⟨⟨vk, vn, vt⟩, a6, e6, rfl, hp, ho, hto⟩
      have HT : Hid (PTo pCol s a 0 (colOf n (tk, tm) false (vk, vn, vt)) a6 e6) := by
        by_cases h6 : e6 = 0
        · subst h6
          have h3 := pCol_to Q1.out Q2.out Hal.out (show QTo pDef s (twA s a2 nullB) (vk, vn, vt) a6 by show pDef _ = _; rw [He.out]; exact hto.q)
          rw [htn] at h3
          exact h3.pto hto.1
        · have h2 := hto.qn h6
          have h3 := pCol_no3 Q1.out Q2.out Hal.out (show QNo pDef s (twA s a2 nullB) a6 e6 from ⟨h6, by rw [He.out]; exact h2.2⟩)
          exact h3.pto hto.1 _
      have HP7 := Lib.hid hp; have HO7 := Lib.hid (HO6.out.trans ho); have HR7 := Lib.hid (HR6.out.off ho (fun h => hne h.symm)); have HJ7 := Lib.hid (HJ6.out.off ho (fun h => hnJ h.symm))
      clear hp ho hto
      have d0 := HJ7.out.at 0 _ rfl; have r0 := HR7.out.at 0 _ rfl; have p0 := HR7.out.thaw 0
      have d1 := HJ7.out.at 1 _ rfl; have r1 := HR7.out.at 1 _ rfl; have p1 := HR7.out.thaw 1
      have d2 := HJ7.out.at 2 _ rfl; have r2 := HR7.out.at 2 _ rfl; have p2 := HR7.out.thaw 2
      have d3 := HJ7.out.at 3 _ rfl; have r3 := HR7.out.at 3 _ rfl; have p3 := HR7.out.thaw 3
      have d4 := HJ7.out.at 4 _ rfl; have r4 := HR7.out.at 4 _ rfl; have p4 := HR7.out.thaw 4
      have d5 := HJ7.out.at 5 _ rfl; have r5 := HR7.out.at 5 _ rfl; have p5 := HR7.out.thaw 5
      have d6 := HJ7.out.at 6 _ rfl; have r6 := HR7.out.at 6 _ rfl; have p6 := HR7.out.thaw 6
      have d7 := HJ7.out.at 7 _ rfl; have r7 := HR7.out.at 7 _ rfl; have p7 := HR7.out.thaw 7
      have q5 := HJ7.out.thaw 5
      have q6 := HJ7.out.thaw 6
      have q7 := HJ7.out.thaw 7
      go_wp2_with fail
      refine bodyPost_ret (results_kC rfl _ rfl (((((((((((HR7.out.put J 5 (.int .i64 vk) hrJ).put J 6 (.int .i64 vn) hrJ).put J 7 (.string (strB vt)) hrJ).set 0 (.int .i64 0)).set 1 (.string (strB n))).set 2 (.int .i64 tk)).set 3 (.int .i64 tm)).set 4 (.bool false)).set 5 (.int .i64 vk)).set 6 (.int .i64 vn)).set 7 (.string (strB vt)))) rfl ?_
      exact ⟨(colOf n (tk, tm) false (vk, vn, vt)), a6, e6, rfl, (((((((((((HP7.out.put J 5 (.int .i64 vk) (fun h => hnJ h.symm)).put J 6 (.int .i64 vn) (fun h => hnJ h.symm)).put J 7 (.string (strB vt)) (fun h => hnJ h.symm)).put w.heap.size 0 (.int .i64 0) (fun h => hne h.symm)).put w.heap.size 1 (.string (strB n)) (fun h => hne h.symm)).put w.heap.size 2 (.int .i64 tk) (fun h => hne h.symm)).put w.heap.size 3 (.int .i64 tm) (fun h => hne h.symm)).put w.heap.size 4 (.bool false) (fun h => hne h.symm)).put w.heap.size 5 (.int .i64 vk) (fun h => hne h.symm)).put w.heap.size 6 (.int .i64 vn) (fun h => hne h.symm)).put w.heap.size 7 (.string (strB vt)) (fun h => hne h.symm)), (((((((((((HO7.out.put J 5 (.int .i64 vk) hwJ).put J 6 (.int .i64 vn) hwJ).put J 7 (.string (strB vt)) hwJ).put w.heap.size 0 (.int .i64 0) (Nat.le_refl _)).put w.heap.size 1 (.string (strB n)) (Nat.le_refl _)).put w.heap.size 2 (.int .i64 tk) (Nat.le_refl _)).put w.heap.size 3 (.int .i64 tm) (Nat.le_refl _)).put w.heap.size 4 (.bool false) (Nat.le_refl _)).put w.heap.size 5 (.int .i64 vk) (Nat.le_refl _)).put w.heap.size 6 (.int .i64 vn) (Nat.le_refl _)).put w.heap.size 7 (.string (strB vt)) (Nat.le_refl _)), HT.out⟩
  · have t1 := eqL (a := y) (l := [110, 117, 108, 108]) (hty.2 htn)
    have Hd0 := Lib.hid (tw_nb (x := nullB) Hal.out)
    have htn2 : twB s (nb s a2) nullB = true := Hd0.out.1.trans htn
    have Htn2 := Lib.hid htn2
    clear hty htn2
    have Htn := Lib.hid htn; clear htn
    go_wp2_with fail
    refine (HB1.out _ HP3.out).mono ?_
    rintro en w4 ⟨rfl, hp, ho⟩
    have HP4 := Lib.hid hp; have HO4 := Lib.hid (HO3.out.trans ho); have HR4 := Lib.hid (HR3.out.off ho (fun h => hne h.symm)); have HJ4 := Lib.hid (HJ3.out.off ho (fun h => hnJ h.symm))
    clear hp ho c0 c1 c2
    go_wp2_with fail
    refine (rwant_any b s _ 0 nullB _ HP4.out Hnbl.out hs (by decide) Hwn.out).mono ?_
    rintro en w5 ⟨_, a4, e4, rfl, hp, ho, hto⟩
    obtain ⟨rfl, rfl⟩ := want_yes Hnbl.out hto Htn2.out
    rw [Hd0.out.2] at hp
    have HP5 := Lib.hid hp; have HO5 := Lib.hid (HO4.out.trans ho); have HR5 := Lib.hid (HR4.out.off ho (fun h => hne h.symm)); have HJ5 := Lib.hid (HJ4.out.off ho (fun h => hnJ h.symm))
    clear hp ho hto
    obtain ⟨c0, c1, c2⟩ := HP5.out.cells
    have l4 := HJ5.out.at 4 _ rfl; have q4 := HJ5.out.thaw 4
    have hJb : J ≠ b := fun h => hnJ h.symm
    go_wp2_with fail
    clear c0 c1 c2 l4 q4
    have HP6 := Lib.hid (HP5.out.put J 4 (.bool true) hJb)
    have HO6 := Lib.hid (HO5.out.put J 4 (.bool true) hwJ)
    have HR6 := Lib.hid (HR5.out.put J 4 (.bool true) hrJ)
    have HJ6 : Hid (Bk 56 _ J [.int .i64 0, .string (strB n), .int .i64 tk, .int .i64 tm, .bool true, .int .i64 0, .int .i64 0, .string ⟨#[]⟩]) := HJ5.out.set 4 (.bool true)
    have htn := Htn.out; clear Htn
    obtain ⟨c0, c1, c2⟩ := HP6.out.cells
    refine (HB2.out _ HP6.out).mono ?_
    rintro en w7 ⟨rfl, hp, ho⟩
    have HP7 := Lib.hid hp; have HO7 := Lib.hid (HO6.out.trans ho); have HR7 := Lib.hid (HR6.out.off ho (fun h => hne h.symm)); have HJ7 := Lib.hid (HJ6.out.off ho (fun h => hnJ h.symm))
    clear hp ho c0 c1 c2
    obtain ⟨c0, c1, c2⟩ := HP7.out.cells
    cases htd : twB s (twA s a2 nullB) defB
    · have t9 := neL (a := y2) (l := [100, 101, 102, 97, 117, 108, 116]) (fun h => by have := Hty2.out.1 h; rw [htd] at this; cases this)
      have HT : Hid (PTo pCol s a 0 (colOf n (tk, tm) true (0, 0, [])) (nb s (twA s a2 nullB)) 0) := by
        have h1 := pDef_no HA3.out htd
        have h2 : twA s (twA s a2 nullB) defB = nb s (twA s a2 nullB) := twA_no htd
        rw [h2] at h1
        have h3 := pCol_to Q1.out Q2.out Hal.out h1
        rw [htn] at h3
        exact h3.pto Hnb3.out
      clear htd
      have d0 := HJ7.out.at 0 _ rfl; have r0 := HR7.out.at 0 _ rfl; have p0 := HR7.out.thaw 0
      have d1 := HJ7.out.at 1 _ rfl; have r1 := HR7.out.at 1 _ rfl; have p1 := HR7.out.thaw 1
      have d2 := HJ7.out.at 2 _ rfl; have r2 := HR7.out.at 2 _ rfl; have p2 := HR7.out.thaw 2
      have d3 := HJ7.out.at 3 _ rfl; have r3 := HR7.out.at 3 _ rfl; have p3 := HR7.out.thaw 3
      have d4 := HJ7.out.at 4 _ rfl; have r4 := HR7.out.at 4 _ rfl; have p4 := HR7.out.thaw 4
      have d5 := HJ7.out.at 5 _ rfl; have r5 := HR7.out.at 5 _ rfl; have p5 := HR7.out.thaw 5
      have d6 := HJ7.out.at 6 _ rfl; have r6 := HR7.out.at 6 _ rfl; have p6 := HR7.out.thaw 6
      have d7 := HJ7.out.at 7 _ rfl; have r7 := HR7.out.at 7 _ rfl; have p7 := HR7.out.thaw 7
      go_wp2_with fail
      refine bodyPost_ret (results_kC rfl _ rfl ((((((((HR7.out.set 0 (.int .i64 0)).set 1 (.string (strB n))).set 2 (.int .i64 tk)).set 3 (.int .i64 tm)).set 4 (.bool true)).set 5 (.int .i64 0)).set 6 (.int .i64 0)).set 7 (.string ⟨#[]⟩))) rfl ?_
      exact ⟨(colOf n (tk, tm) true (0, 0, [])), _, 0, rfl, ((((((((HP7.out.put w.heap.size 0 (.int .i64 0) (fun h => hne h.symm)).put w.heap.size 1 (.string (strB n)) (fun h => hne h.symm)).put w.heap.size 2 (.int .i64 tk) (fun h => hne h.symm)).put w.heap.size 3 (.int .i64 tm) (fun h => hne h.symm)).put w.heap.size 4 (.bool true) (fun h => hne h.symm)).put w.heap.size 5 (.int .i64 0) (fun h => hne h.symm)).put w.heap.size 6 (.int .i64 0) (fun h => hne h.symm)).put w.heap.size 7 (.string ⟨#[]⟩) (fun h => hne h.symm)), ((((((((HO7.out.put w.heap.size 0 (.int .i64 0) (Nat.le_refl _)).put w.heap.size 1 (.string (strB n)) (Nat.le_refl _)).put w.heap.size 2 (.int .i64 tk) (Nat.le_refl _)).put w.heap.size 3 (.int .i64 tm) (Nat.le_refl _)).put w.heap.size 4 (.bool true) (Nat.le_refl _)).put w.heap.size 5 (.int .i64 0) (Nat.le_refl _)).put w.heap.size 6 (.int .i64 0) (Nat.le_refl _)).put w.heap.size 7 (.string ⟨#[]⟩) (Nat.le_refl _)), HT.out⟩
    · have t9 := eqL (a := y2) (l := [100, 101, 102, 97, 117, 108, 116]) (Hty2.out.2 htd)
      have Hd := Lib.hid (tw_nb (x := defB) HA3.out)
      have htd2 : twB s (nb s (twA s a2 nullB)) defB = true := Hd.out.1.trans htd
      have He := Lib.hid (pDef_eq HA3.out htd)
      have Htd2 := Lib.hid htd2
      clear htd htd2
      go_wp2_with fail
      refine (rwant_any b s _ 0 defB _ HP7.out Hnb3.out hs (by decide) Hwd.out).mono ?_
      rintro en w8 ⟨_, a4, e4, rfl, hp, ho, hto⟩
      obtain ⟨rfl, rfl⟩ := want_yes Hnb3.out hto Htd2.out
      rw [Hd.out.2] at hp hto
      have Hle5 : Hid (twA s (twA s a2 nullB) defB ≤ s.size) := twA_le HA3.out
      have HP8 := Lib.hid hp; have HO8 := Lib.hid (HO7.out.trans ho); have HR8 := Lib.hid (HR7.out.off ho (fun h => hne h.symm)); have HJ8 := Lib.hid (HJ7.out.off ho (fun h => hnJ h.symm))
      clear hp ho hto c0 c1 c2
      go_wp2_with fail
      refine (rvalue_any false b s _ 0 _ HP8.out Hle5.out hs).mono ?_
      rintro en w9 ⟨⟨vk, vn, vt⟩, a6, e6, rfl, hp, ho, hto⟩
      have HT : Hid (PTo pCol s a 0 (colOf n (tk, tm) true (vk, vn, vt)) a6 e6) := by
        by_cases h6 : e6 = 0
        · subst h6
          have h3 := pCol_to Q1.out Q2.out Hal.out (show QTo pDef s (twA s a2 nullB) (vk, vn, vt) a6 by show pDef _ = _; rw [He.out]; exact hto.q)
          rw [htn] at h3
          exact h3.pto hto.1
        · have h2 := hto.qn h6
          have h3 := pCol_no3 Q1.out Q2.out Hal.out (show QNo pDef s (twA s a2 nullB) a6 e6 from ⟨h6, by rw [He.out]; exact h2.2⟩)
          exact h3.pto hto.1 _
      have HP9 := Lib.hid hp; have HO9 := Lib.hid (HO8.out.trans ho); have HR9 := Lib.hid (HR8.out.off ho (fun h => hne h.symm)); have HJ9 := Lib.hid (HJ8.out.off ho (fun h => hnJ h.symm))
      clear hp ho hto
      have d0 := HJ9.out.at 0 _ rfl; have r0 := HR9.out.at 0 _ rfl; have p0 := HR9.out.thaw 0
      have d1 := HJ9.out.at 1 _ rfl; have r1 := HR9.out.at 1 _ rfl; have p1 := HR9.out.thaw 1
      have d2 := HJ9.out.at 2 _ rfl; have r2 := HR9.out.at 2 _ rfl; have p2 := HR9.out.thaw 2
      have d3 := HJ9.out.at 3 _ rfl; have r3 := HR9.out.at 3 _ rfl; have p3 := HR9.out.thaw 3
      have d4 := HJ9.out.at 4 _ rfl; have r4 := HR9.out.at 4 _ rfl; have p4 := HR9.out.thaw 4
      have d5 := HJ9.out.at 5 _ rfl; have r5 := HR9.out.at 5 _ rfl; have p5 := HR9.out.thaw 5
      have d6 := HJ9.out.at 6 _ rfl; have r6 := HR9.out.at 6 _ rfl; have p6 := HR9.out.thaw 6
      have d7 := HJ9.out.at 7 _ rfl; have r7 := HR9.out.at 7 _ rfl; have p7 := HR9.out.thaw 7
      have q5 := HJ9.out.thaw 5
      have q6 := HJ9.out.thaw 6
      have q7 := HJ9.out.thaw 7
      go_wp2_with fail
      refine bodyPost_ret (results_kC rfl _ rfl (((((((((((HR9.out.put J 5 (.int .i64 vk) hrJ).put J 6 (.int .i64 vn) hrJ).put J 7 (.string (strB vt)) hrJ).set 0 (.int .i64 0)).set 1 (.string (strB n))).set 2 (.int .i64 tk)).set 3 (.int .i64 tm)).set 4 (.bool true)).set 5 (.int .i64 vk)).set 6 (.int .i64 vn)).set 7 (.string (strB vt)))) rfl ?_
      exact ⟨(colOf n (tk, tm) true (vk, vn, vt)), a6, e6, rfl, (((((((((((HP9.out.put J 5 (.int .i64 vk) (fun h => hnJ h.symm)).put J 6 (.int .i64 vn) (fun h => hnJ h.symm)).put J 7 (.string (strB vt)) (fun h => hnJ h.symm)).put w.heap.size 0 (.int .i64 0) (fun h => hne h.symm)).put w.heap.size 1 (.string (strB n)) (fun h => hne h.symm)).put w.heap.size 2 (.int .i64 tk) (fun h => hne h.symm)).put w.heap.size 3 (.int .i64 tm) (fun h => hne h.symm)).put w.heap.size 4 (.bool true) (fun h => hne h.symm)).put w.heap.size 5 (.int .i64 vk) (fun h => hne h.symm)).put w.heap.size 6 (.int .i64 vn) (fun h => hne h.symm)).put w.heap.size 7 (.string (strB vt)) (fun h => hne h.symm)), (((((((((((HO9.out.put J 5 (.int .i64 vk) hwJ).put J 6 (.int .i64 vn) hwJ).put J 7 (.string (strB vt)) hwJ).put w.heap.size 0 (.int .i64 0) (Nat.le_refl _)).put w.heap.size 1 (.string (strB n)) (Nat.le_refl _)).put w.heap.size 2 (.int .i64 tk) (Nat.le_refl _)).put w.heap.size 3 (.int .i64 tm) (Nat.le_refl _)).put w.heap.size 4 (.bool true) (Nat.le_refl _)).put w.heap.size 5 (.int .i64 vk) (Nat.le_refl _)).put w.heap.size 6 (.int .i64 vn) (Nat.le_refl _)).put w.heap.size 7 (.string (strB vt)) (Nat.le_refl _)), HT.out⟩
end Go.Proofs.YtebldfnocpcddaaGreatDoor

/-
  The document's own parser of changes (layer 10): columns between brackets.
-/
namespace Go.Proofs.YtebldfnocpcddaaGreatDoor
open Go.RowKit

theorem tm_nb {s : ByteArray} {a : Nat} {c : UInt8} (ha : a ≤ s.size) : tmB s (nb s a) c = tmB s a c ∧ tmA s (nb s a) c = tmA s a c := by
  have e1 : tmB s (nb s a) c = tmB s a c := by unfold tmB; rw [nb_drop ha, bl_bl]
  exact ⟨e1, by unfold tmA; rw [e1, nb_nb ha]⟩
theorem tmA_no {s : ByteArray} {a : Nat} {c : UInt8} (h : tmB s a c = false) : tmA s a c = nb s a := by
  unfold tmA
  rw [if_neg (by rw [h]; decide)]
/-- a sign that is there is taken -/
theorem sign_yes {s : ByteArray} {k a' e' : Nat} {c : UInt8} {z : Unit} (hk : k ≤ s.size) (h : PTo (fun r => (pSign c r).bind fun q => .ok ((), q)) s k 0 z a' e') (ht : tmB s k c = true) : e' = 0 ∧ a' = tmA s k c := by
  have h1 := tm_yes hk ht
  rcases h.2 with ⟨h2, _⟩ | ⟨_, ⟨h2, h3⟩ | ⟨h2, h3⟩⟩
  · exact absurd rfl h2
  · refine ⟨h2, ?_⟩
    have h4 : (pSign c ((bs s).drop k)).bind (fun q => Except.ok ((), q)) = .ok (z, (bs s).drop a') := h3
    rw [h1] at h4
    have h5 : (bs s).drop (tmA s k c) = (bs s).drop a' := congrArg (fun q : Except Er (Unit × List UInt8) => match q with | .ok y => y.2 | .error _ => []) h4
    have h6 := congrArg List.length h5
    rw [List.length_drop, List.length_drop, bs_length] at h6
    have := tmA_le (c := c) hk
    have := h.1
    omega
  · have h4 : (pSign c ((bs s).drop k)).bind (fun q => Except.ok ((), q)) = .error ((bs s).drop a', e') := h3
    rw [h1] at h4; cases h4
/-- which byte stands behind blanks -/
theorem tmB_at {s : ByteArray} {a : Nat} {c : UInt8} (ha : a ≤ s.size) : tmB s a c = true ↔ (bs s)[nb s a]? = some c := by
  unfold tmB
  rw [decide_eq_true_iff, ← nb_drop ha, List.getElem?_drop, Nat.add_zero]
theorem PTo.zero' {α : Type} {m : List UInt8 → Except Er (α × List UInt8)} {s : ByteArray} {a e a' : Nat} {x : α} (h : PTo m s a e x a' 0) : e = 0 := h.zero
/-- the first bracket is missing, or something was wrong before -/
theorem cols_e1 {s : ByteArray} {a e a1 e1 : Nat} {z : Unit} (h : PTo (fun r => (pSign 40 r).bind fun q => .ok ((), q)) s a e z a1 e1) (he : e1 ≠ 0) : PTo pColsP s a e [] a1 e1 := by
  by_cases h0 : e = 0
  · subst h0
    have h2 : QNo (un (pSign 40)) s a a1 e1 := h.qn he
    exact (pColsP_no1 h2).pto h.1 []
  · rcases h.2 with ⟨_, rfl, rfl⟩ | ⟨h1, _⟩
    · exact PTo.stay [] h.1 h0
    · exact absurd h1 h0
theorem qcol_nb {s : ByteArray} {k a' : Nat} {c : Cb} (hk : k ≤ s.size) (h : QTo pCol s (nb s k) c a') : QTo pCol s k c a' := by
  show pCol _ = _
  rw [← pCol_bl, ← nb_drop hk]; exact h
theorem qncol_nb {s : ByteArray} {k a' e : Nat} (hk : k ≤ s.size) (h : QNo pCol s (nb s k) a' e) : QNo pCol s k a' e := by
  refine ⟨h.1, ?_⟩
  rw [← pCol_bl, ← nb_drop hk]; exact h.2
/-- what the second bracket comes «to», from the place behind blanks -/
theorem cols_end {s : ByteArray} {a a1 a2 a3 e3 : Nat} {l : List Cb} {z : Unit} (h1 : QTo (un (pSign 40)) s a () a1) (h2 : QTo (pCols 10 []) s a1 l a2) (h3 : PTo (fun r => (pSign 41 r).bind fun q => .ok ((), q)) s a2 0 z a3 e3) : PTo pColsP s a 0 l a3 e3 := by
  by_cases h0 : e3 = 0
  · subst h0
    exact (pColsP_to h1 h2 (show QTo (un (pSign 41)) s a2 () a3 from h3.q)).pto h3.1
  · exact (pColsP_no3 h1 h2 (show QNo (un (pSign 41)) s a2 a3 e3 from h3.qn h0)).pto h3.1 l
/-- a comma, or none -/
theorem comma_no {s : ByteArray} {a : Nat} (ha : a ≤ s.size) (h : tmB s a 44 = false) : s.size ≤ nb s a ∨ ∃ hk : nb s a < s.size, s[nb s a].toNat ≠ 44 := by
  by_cases hlt : nb s a < s.size
  · refine .inr ⟨hlt, fun e => ?_⟩
    have : tmB s a 44 = true := by
      rw [tmB_at ha, bs_at s _ hlt]
      exact congrArg some (UInt8.toNat_inj.1 (by rw [e]; rfl))
    rw [h] at this; cases this
  · exact .inl (by omega)
theorem comma_yes {s : ByteArray} {a : Nat} (ha : a ≤ s.size) (h : tmB s a 44 = true) : ∃ hk : nb s a < s.size, s[nb s a].toNat = 44 := by
  have h2 := (tmB_at ha).1 h
  have hlt : nb s a < s.size := by
    have := (List.getElem?_eq_some_iff.1 h2).1
    rwa [bs_length] at this
  refine ⟨hlt, ?_⟩
  rw [bs_at s _ hlt] at h2
  have : s[nb s a] = 44 := by simpa using h2
  rw [this]; rfl
/-- how the columns end -/
def RCols (b : Nat) (s : ByteArray) (a e : Nat) (w : World) (en : Ending) (w' : World) : Prop :=
  ∃ (v : Value) (l : List Cb) (a' e' : Nat), en = .returned v ∧ OwnC w' w.heap.size v l ∧ PBx 67 w' b s a' e' ∧ Off (fun k => k = b) w w' ∧ PTo pColsP s a e l a' e' ∧ l.length ≤ 10
set_option maxRecDepth 100000 in
set_option maxHeartbeats 6400000 in
theorem rcolumns_any (b : Nat) (s : ByteArray) (a e : Nat) (w : World) (h : PBx 67 w b s a e) (ha : a ≤ s.size) (hs : s.size ≤ 1000000) :
    Calls Tryz.prog 63 #[.pointer (some ⟨b, 0, none⟩)] w fun en w' => RCols b s a e w en w' := by
  have hlt := h.lt
  have H0 := Lib.hid h; clear h
  go_enter Tryz.func63, Tryz.ntmps63
  go_wp2_with fail
  refine (rwantS_any b s a e 40 _ H0.out ha hs (.inl rfl)).mono ?_
  rintro en w1 ⟨z, a1, e1, rfl, hp, ho, hto⟩
  have HP1 := Lib.hid hp; have HO1 := Lib.hid ho
  have hle1 : a1 ≤ s.size := hto.1
  by_cases he1 : e1 = 0
  case neg =>
    have HT := Lib.hid (cols_e1 hto he1)
    have t0 : ((e1 : Int) == 0) = false := by simp; omega
    obtain ⟨c0, c1, c2⟩ := HP1.out.cells
    clear hp ho hto he1
    go_wp2_with fail
    go_loopg [3] 0 (fun g v wr => v = .slice none 0 0 ∧ wr = w1)
    case atStart => exact ⟨rfl, rfl⟩
    case round =>
      obtain ⟨rfl, rfl⟩ := hrel
      go_wp2_with fail
      refine (rwantS_any b s a1 e1 41 _ HP1.out hle1 hs (.inr (.inl rfl))).mono ?_
      rintro en w2 ⟨z2, a2, e2, rfl, hp, ho, hto⟩
      have HP2 := Lib.hid hp; have HO2 := Lib.hid (HO1.out.trans ho)
      clear hp ho c0 c1 c2
      have he : e1 ≠ 0 := by simpa using t0
      obtain ⟨rfl, rfl⟩ : a2 = a1 ∧ e2 = e1 := by
        rcases hto.2 with ⟨_, h1, h2⟩ | ⟨h1, _⟩
        · exact ⟨h1, h2⟩
        · exact absurd h1 he
      clear he hto
      go_wp2_with fail
      go_ret
      exact ⟨_, [], a2, e2, rfl, OwnR.nil _ _ _ _ _, HP2.out, HO2.out, HT.out, by simp⟩
  subst he1
  obtain rfl : e = 0 := hto.zero
  have HT1 : Hid (QTo (un (pSign 40)) s a () a1) := hto.q
  clear hp ho hto
  go_wp2_with fail
  go_loopg [3] 10 (fun g v wr => ∃ (l : List Cb) (A : Option Addr) (cp ak : Nat), l.length + g = 10 ∧ v = .slice A l.length cp ∧ ak ≤ s.size ∧ Hid (OwnC wr w.heap.size (.slice A l.length cp) l) ∧ Hid (PBx 67 wr b s ak 0) ∧ Hid (Off (fun k => k = b) w wr) ∧ Hid (pCols 10 [] ((bs s).drop a1) = pCols (10 - l.length) l ((bs s).drop ak)))
  case atStart => exact ⟨[], none, 0, a1, rfl, rfl, hle1, OwnR.nil _ _ _ _ _, HP1.out, HO1.out, rfl⟩
  case round =>
    obtain ⟨l, A, cp, ak, hg, rfl, hak, hOw, hP, hO, hC⟩ := hrel
    obtain ⟨c0, c1, c2⟩ := hP.out.cells
    have t0 : (((0 : Nat) : Int) == 0) = true := rfl
    have HB := Lib.hid (rblanks_any b s ak 0 wr hP.out hak hs)
    have Hnb : Hid (nbE s ak 0 = nb s ak) := rfl
    have Hle2 := Lib.hid (nb_le hak).2
    have hneb : ∀ k, (Value.slice A l.length cp).ownBlock = some k → k ≠ b := fun k hk e => by have := (hOw.out.lt k hk).1; omega
    have Hneb := Lib.hid hneb
    have Hak := Lib.hid hak
    clear hneb hak
    by_cases h10 : l.length = 10
    · have hn1 : ((l.length : Int) == 10) = true := by simp [h10]
      have HN := Lib.hid ((pColsP_no2 HT1.out (CI.full hC.out h10 Hak.out)).pto Hle2.out ([] : List Cb))
      clear h10 hg
      go_wp2_with fail
      refine HB.out.mono ?_
      rintro en w4 ⟨rfl, hp, ho⟩
      rw [Hnb.out] at hp
      have HP4 := Lib.hid hp; have HO4 := Lib.hid (hO.out.trans ho)
      clear hp ho
      go_wp2_with fail
      refine (rbad_any b s _ 0 3 _ HP4.out).mono ?_
      rintro en w5 ⟨rfl, hp, ho⟩
      have HP5 := Lib.hid hp; have HO5 := Lib.hid (HO4.out.trans ho)
      clear hp ho
      go_wp2_with fail
      go_ret
      exact ⟨_, [], _, 3, rfl, OwnR.nil _ _ _ _ _, HP5.out, HO5.out, HN.out, by simp⟩
    · have hn1 : ((l.length : Int) == 10) = false := by simp; omega
      have Hl : Hid (l.length < 10) := by show _ < _; omega
      obtain ⟨g, rfl⟩ : ∃ g, gk = g + 1 := ⟨gk - 1, by omega⟩
      have Hg : Hid (l.length + 1 + g = 10) := by show _ = _; omega
      clear h10 hg
      go_wp2_with fail
      refine HB.out.mono ?_
      rintro en w4 ⟨rfl, hp, ho⟩
      rw [Hnb.out] at hp
      have HP4 := Lib.hid hp; have HO4 := Lib.hid (hO.out.trans ho); have HOw4 := Lib.hid (hOw.out.off ho Hneb.out)
      clear hp ho c0 c1 c2
      go_wp2_with fail
      refine (rcolumn_any b s _ 0 _ HP4.out Hle2.out hs).mono ?_
      rintro en w5 ⟨c', a5, e5, rfl, hp, ho, hto⟩
      have HP5 := Lib.hid hp; have HO5 := Lib.hid (HO4.out.trans ho); have HOw5 := Lib.hid (HOw4.out.off ho Hneb.out)
      have hle5 : a5 ≤ s.size := hto.1
      have HT5 := Lib.hid hto
      clear hp ho hto
      go_wp2_with (at_builtin; refine wpList_append_rows Tryz.underlying26 infoC rfl (by decide) (by decide) lenC oneC rfl _ _ rfl w.heap.size _ l (some ⟨w5.heap.size, 0, none⟩) 1 1 [c'] (World.ownsRow.alloc HOw5.out _) (by simp [Act.eval]) (by simp [Act.eval]) rfl (fun h => by cases h) (rowat_new (m := 8) (f := fC) w5 c' 56) (by have := Hl.out; simp; omega) (by have := HO5.out.size; simp; omega) ?_; intro v1 w6 ho6 hg6; obtain ⟨A2, k2, rfl, _, _, _⟩ := ho6.form)
      have hof6 : Off (fun x => (Value.slice A l.length cp).ownBlock = some x) w5 w6 := Off.behind (by go_grown) (Off.of_grown hg6)
      have HO6 : Hid (Off (fun k => k = b) w w6) := by
        refine ⟨hof6.os.trans HO5.out.os, hof6.tape.trans HO5.out.tape, hof6.output.trans HO5.out.output, Nat.le_trans HO5.out.size hof6.size, fun k hk hn => ?_⟩
        exact (hof6.block k (Nat.lt_of_lt_of_le hk HO5.out.size) (fun hb => by have := (HOw5.out.lt k hb).1; omega)).trans (HO5.out.block k hk hn)
      have HP6 : Hid (PBx 67 w6 b s a5 e5) := HP5.out.off hof6 (fun hb => Hneb.out b hb rfl)
      have HOw6 := Lib.hid ho6
      clear hof6 ho6 hg6
      have hle : (l ++ [c']).length = l.length + 1 := by simp
      rw [hle] at HOw6
      have Hlen : Hid ((l ++ [c']).length ≤ 10) := by show _ ≤ _; rw [hle]; exact Hl.out
      have hneb : ∀ k, (Value.slice A2 (l.length + 1) k2).ownBlock = some k → k ≠ b := fun k hk e => by have := (HOw6.out.lt k hk).1; omega
      have Hneb2 := Lib.hid hneb
      have HBb := Lib.hid (rblanks_any b s a5 e5 w6 HP6.out hle5 hs)
      clear hneb
      go_wp2_with fail
      refine HBb.out.mono ?_
      rintro en w7 ⟨rfl, hp, ho⟩
      have HP7 := Lib.hid hp; have HO7 := Lib.hid (HO6.out.trans ho); have HOw7 := Lib.hid (HOw6.out.off ho Hneb2.out)
      clear hp ho
      obtain ⟨c0, c1, c2⟩ := HP7.out.cells
      by_cases he5 : e5 = 0
      case neg =>
        have t1 : ((e5 : Int) != 0) = true := by simp; omega
        have hnb5 : nbE s a5 e5 = a5 := if_neg he5
        have HN := Lib.hid ((pColsP_no2 HT1.out (CI.no hC.out Hl.out (qncol_nb Hak.out (HT5.out.qn he5)))).pto hle5 (l ++ [c']))
        have HS : Hid (∀ {z a8 e8}, PTo (fun r => (pSign 41 r).bind fun q => .ok ((), q)) s a5 e5 z a8 e8 → a8 = a5 ∧ e8 = e5) := by
          intro z a8 e8 h
          rcases h.2 with ⟨_, h1, h2⟩ | ⟨h1, _⟩
          · exact ⟨h1, h2⟩
          · exact absurd h1 he5
        rw [hnb5] at HP7 c1
        clear he5 hnb5
        go_wp2_with fail
        go_quiet (fail)
        go_wp2_with fail
        refine (rwantS_any b s a5 e5 41 _ (show PBx _ (w7.drewN _) b s a5 e5 from HP7.out) hle5 hs (.inr (.inl rfl))).mono ?_
        rintro en w8 ⟨z, a8, e8, rfl, hp, ho, hto⟩
        obtain ⟨rfl, rfl⟩ := HS.out hto
        have HP8 := Lib.hid hp; have HO8 := Lib.hid ((HO7.out.then (below_drewN (Below.refl _ _) _)).trans ho)
        have HOw8 := Lib.hid (OwnR.off (HOw7.out.below (below_drewN (Below.refl _ _) _)) ho Hneb2.out)
        clear hp ho hto c0 c1 c2
        go_wp2_with fail
        go_ret
        exact ⟨_, l ++ [c'], a8, e8, rfl, HOw8.out, HP8.out, HO8.out, HN.out, Hlen.out⟩
      subst he5
      have HC5 := Lib.hid (CI.of hC.out Hl.out (qcol_nb Hak.out HT5.out.q))
      have hnb5 : nbE s a5 0 = nb s a5 := rfl
      have Hle7 := Lib.hid (nb_le hle5).2
      have Hle5 := Lib.hid hle5
      rw [hnb5] at HP7 c1
      clear hnb5
      have t1 : (((0 : Nat) : Int) != 0) = false := rfl
      cases ht : tmB s a5 44
      · -- no comma
        have HN : Hid (∀ {z a8 e8}, PTo (fun r => (pSign 41 r).bind fun q => .ok ((), q)) s (nb s a5) 0 z a8 e8 → PTo pColsP s a 0 (l ++ [c']) a8 e8) := by
          intro z a8 e8 h
          have h2 := HC5.out.stop Hle5.out ht
          rw [tmA_no ht] at h2
          exact cols_end HT1.out h2 h
        have hno := comma_no Hle5.out ht
        clear ht
        obtain ⟨k, hk⟩ : ∃ k, nb s a5 = k := ⟨_, rfl⟩
        rw [hk] at HP7 c1 HN
        simp only [hk] at hno Hle7
        rcases hno with hge | ⟨hlt2, hne⟩
        · have hge3 : decide ((s.size : Int) ≤ (k : Int)) = true := by simpa using hge
          have hge4 : decide (s.size ≤ k) = true := by simpa using hge
          have hge2 : (s.size : Int) ≤ (k : Int) := by omega
          go_wp2_with fail
          go_quiet (fail)
          go_wp2_with fail
          refine (rwantS_any b s k 0 41 _ (show PBx _ (w7.drewN _) b s k 0 from HP7.out) Hle7.out hs (.inr (.inl rfl))).mono ?_
          rintro en w8 ⟨z, a8, e8, rfl, hp, ho, hto⟩
          have HP8 := Lib.hid hp; have HO8 := Lib.hid ((HO7.out.then (below_drewN (Below.refl _ _) _)).trans ho)
          have HOw8 := Lib.hid (OwnR.off (HOw7.out.below (below_drewN (Below.refl _ _) _)) ho Hneb2.out)
          have HF := Lib.hid (HN.out hto)
          clear hp ho hto c0 c1 c2
          go_wp2_with fail
          go_ret
          exact ⟨_, l ++ [c'], a8, e8, rfl, HOw8.out, HP8.out, HO8.out, HF.out, Hlen.out⟩
        · have l1 : decide (s.size ≤ k) = false := by simp; omega
          have l3 : decide ((s.size : Int) ≤ (k : Int)) = false := by simp; omega
          have l2 : ¬ ((s.size : Int) ≤ (k : Int)) := by omega
          have t2 : ((s[k].toNat : Int) != 44) = true := by simp; omega
          have t3 : ((s[k].toNat : Int) == 44) = false := by simp; omega
          clear hne
          go_wp2_with fail
          go_quiet (fail)
          go_wp2_with fail
          refine (rwantS_any b s k 0 41 _ (show PBx _ (w7.drewN _) b s k 0 from HP7.out) Hle7.out hs (.inr (.inl rfl))).mono ?_
          rintro en w8 ⟨z, a8, e8, rfl, hp, ho, hto⟩
          have HP8 := Lib.hid hp; have HO8 := Lib.hid ((HO7.out.then (below_drewN (Below.refl _ _) _)).trans ho)
          have HOw8 := Lib.hid (OwnR.off (HOw7.out.below (below_drewN (Below.refl _ _) _)) ho Hneb2.out)
          have HF := Lib.hid (HN.out hto)
          clear hp ho hto c0 c1 c2
          go_wp2_with fail
          go_ret
          exact ⟨_, l ++ [c'], a8, e8, rfl, HOw8.out, HP8.out, HO8.out, HF.out, Hlen.out⟩
      · have hyes := comma_yes Hle5.out ht
        have HS : Hid (∀ {z a8 e8}, PTo (fun r => (pSign 44 r).bind fun q => .ok ((), q)) s (nb s a5) 0 z a8 e8 → e8 = 0 ∧ a8 = tmA s a5 44) := by
          intro z a8 e8 h
          have h2 := sign_yes (nb_le Hle5.out).2 h (by rw [(tm_nb Hle5.out).1]; exact ht)
          rwa [(tm_nb Hle5.out).2] at h2
        have HF := Lib.hid (HC5.out.comma Hle5.out ht)
        have HleA := Lib.hid (tmA_le (c := 44) Hle5.out)
        clear ht
        obtain ⟨k, hk⟩ : ∃ k, nb s a5 = k := ⟨_, rfl⟩
        rw [hk] at HP7 c1 HS
        simp only [hk] at hyes Hle7
        obtain ⟨hlt2, heq⟩ := hyes
        have l1 : decide (s.size ≤ k) = false := by simp; omega
        have l3 : decide ((s.size : Int) ≤ (k : Int)) = false := by simp; omega
        have l2 : ¬ ((s.size : Int) ≤ (k : Int)) := by omega
        have t2 : ((s[k].toNat : Int) != 44) = false := by simp [heq]
        have t3 : ((s[k].toNat : Int) == 44) = true := by simp [heq]
        clear heq
        go_wp2_with fail
        go_quiet (fail)
        go_wp2_with fail
        refine (rwantS_any b s k 0 44 _ (show PBx _ (w7.drewN _) b s k 0 from HP7.out) Hle7.out hs (.inr (.inr rfl))).mono ?_
        rintro en w8 ⟨z, a8, e8, rfl, hp, ho, hto⟩
        obtain ⟨rfl, rfl⟩ := HS.out hto
        have HP8 := Lib.hid hp; have HO8 := Lib.hid ((HO7.out.then (below_drewN (Below.refl _ _) _)).trans ho)
        have HOw8 := Lib.hid (OwnR.off (HOw7.out.below (below_drewN (Below.refl _ _) _)) ho Hneb2.out)
        clear hp ho hto c0 c1 c2
        go_wp2_with fail
        go_roundg g
        case measure => omega
        case rel => exact ⟨l ++ [c'], A2, k2, _, by rw [hle]; exact Hg.out, by rw [hle], HleA.out, by show OwnC _ _ _ _; rw [hle]; exact HOw8.out, HP8.out, HO8.out, HF.out⟩
end Go.Proofs.YtebldfnocpcddaaGreatDoor
