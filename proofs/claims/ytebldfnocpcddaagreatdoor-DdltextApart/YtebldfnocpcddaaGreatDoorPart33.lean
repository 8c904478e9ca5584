/-
  Texts that the proof needs, one behind the other: DtxRP8C.
-/
import Derived.BigRegion
import Derived.Test.YtebldfnocpcddaaGreatDoorPart30
import Derived.Test.YtebldfnocpcddaaGreatDoorPart31
import Derived.Test.YtebldfnocpcddaaGreatDoorPart32

/-
  The document's own Parse of changes (layer 10), whole.
-/
namespace Go.Proofs.YtebldfnocpcddaaGreatDoor
open Go.RowKit

theorem rchange_any (b : Nat) (s : ByteArray) (a : Nat) (w : World) (h : PBx 67 w b s a 0) (ha : a ≤ s.size) (hs : s.size ≤ 1000000) :
    Calls Tryz.prog 33 #[.pointer (some ⟨b, 0, none⟩)] w fun en w' => RChg b s a w en w' := by
  have h8 := opW_le (wd ((bs s).drop (nb s a)))
  obtain ⟨o, ho⟩ : ∃ o, opW (wd ((bs s).drop (nb s a))) = o := ⟨_, rfl⟩
  rw [ho] at h8
  rcases (show o = 0 ∨ o = 1 ∨ o = 2 ∨ o = 3 ∨ o = 4 ∨ o = 5 ∨ o = 6 ∨ o = 7 ∨ o = 8 by omega) with rfl | rfl | rfl | rfl | rfl | rfl | rfl | rfl | rfl
  · exact rchg0_any b s a w h ha hs ho
  · exact rchg1_any b s a w h ha hs ho
  · exact rchg2_any b s a w h ha hs ho
  · exact rchg3_any b s a w h ha hs ho
  · exact rchg4_any b s a w h ha hs ho
  · exact rchg5_any b s a w h ha hs ho
  · exact rchg6_any b s a w h ha hs ho
  · exact rchg7_any b s a w h ha hs ho
  · exact rchg8_any b s a w h ha hs ho
set_option maxRecDepth 100000 in
set_option maxHeartbeats 800000 in
theorem results_D3 {fn : Func} {q u v : Tmp} {w : World} {b : Nat} (h : fn.results = #[.cell q 28, .tmp u, .tmp v]) (tmps : Array Value) {T : TypeId} {x0 x1 x2 x3 x4 x5 x6 x7 x8 x9 x10 x11 : Value} (hp : tmps.getD q undef = .pointer (some ⟨b, 0, none⟩)) (hb : Bk T w b [x0, x1, x2, x3, x4, x5, x6, x7, x8, x9, x10, x11]) :
    (results fn tmps).run Tryz.prog w = .ok (.tuple #[.agg #[x0, x1, x2, x3, x4, x5, x6, x7, x8, x9, x10, x11], tmps.getD u undef, tmps.getD v undef]) w := by
  have c0 := hb.at 0 _ rfl
  have c1 := hb.at 1 _ rfl
  have c2 := hb.at 2 _ rfl
  have c3 := hb.at 3 _ rfl
  have c4 := hb.at 4 _ rfl
  have c5 := hb.at 5 _ rfl
  have c6 := hb.at 6 _ rfl
  have c7 := hb.at 7 _ rfl
  have c8 := hb.at 8 _ rfl
  have c9 := hb.at 9 _ rfl
  have c10 := hb.at 10 _ rfl
  have c11 := hb.at 11 _ rfl
  have hp' : tmps[q]?.getD undef = .pointer (some ⟨b, 0, none⟩) := by simpa using hp
  simp [results, h, go_sem, hp', c0, c1, c2, c3, c4, c5, c6, c7, c8, c9, c10, c11]
/-- what a change that is wrong comes to -/
theorem chg_bad {s : ByteArray} {x : Dp} {a e : Nat} (h : PTo pChange s 0 0 x a e) (he : e ≠ 0) : PRes (bs s) (dp0 0 []) a e := chg_no (h.qn he) h.1
set_option maxRecDepth 100000 in
set_option maxHeartbeats 6400000 in
theorem rparse_any (s : ByteArray) (w : World) (hs : s.size ≤ 1000000) :
    Calls Tryz.prog 14 #[.string s] w fun en w' => PEndP s w en w' := by
  obtain ⟨wr, hwr⟩ : ∃ wr, w.alloc (.cells [(.int .i64 0), (.string ⟨#[]⟩), (.string ⟨#[]⟩), (.string ⟨#[]⟩), (.string ⟨#[]⟩), (.int .i64 0), (.int .i64 0), (.bool false), (.int .i64 0), (.int .i64 0), (.string ⟨#[]⟩), (.slice none 0 0)].toArray 28) = wr := ⟨_, rfl⟩
  have hb0 : Below w.heap.size w wr := by rw [← hwr]; exact (Below.refl _ _).alloc (Nat.le_refl _) _
  have hR0 : Bk 28 wr w.heap.size [(.int .i64 0), (.string ⟨#[]⟩), (.string ⟨#[]⟩), (.string ⟨#[]⟩), (.string ⟨#[]⟩), (.int .i64 0), (.int .i64 0), (.bool false), (.int .i64 0), (.int .i64 0), (.string ⟨#[]⟩), (.slice none 0 0)] := by rw [← hwr]; exact Bk.new w _ _
  have hsr : wr.heap.size = w.heap.size + 1 := by rw [← hwr]; simp
  obtain ⟨P, hP⟩ : ∃ P, wr.heap.size = P := ⟨_, rfl⟩
  obtain ⟨wb, hwb⟩ : ∃ wb, wr.alloc (.cells #[.string s, .int .i64 0, .int .i64 0] 67) = wb := ⟨_, rfl⟩
  have hbb : Below wr.heap.size wr wb := by rw [← hwb]; exact (Below.refl _ _).alloc (Nat.le_refl _) _
  have HP0 : Hid (PBx 67 wb P s 0 0) := by rw [← hwb, ← hP]; exact heap_alloc_new wr _
  have HR0 := Lib.hid (hR0.below hbb)
  have HB0 : Hid (Below w.heap.size w wb) := hb0.trans (hbb.mono hb0.size)
  have hrP : w.heap.size ≠ P := by omega
  have hPw : w.heap.size ≤ P := by omega
  have hPb : P < wb.heap.size := HP0.out.lt
  have hPr : P ≠ w.heap.size := fun e => hrP e.symm
  have hrb : w.heap.size < wb.heap.size := by omega
  have Hwr := Lib.hid hwr; have Hwb := Lib.hid hwb; have HPe := Lib.hid hP; have Hsr := Lib.hid hsr
  clear hwr hwb hb0 hbb hR0 hP hsr
  have HC := Lib.hid (rchange_any P s 0 wb HP0.out (Nat.zero_le _) hs)
  go_enter Tryz.func14, Tryz.ntmps14
  go_upto_region 1 with fail
  rw [Hwr.out]
  go_wp2_with fail
  rw [Hwb.out]
  try rw [HPe.out]
  refine HC.out.mono ?_
  rintro en w1 ⟨d, a1, e1, rfl, hda, hp, ho, hto, hl10, hA⟩
  have HD := Lib.hid hda; have HT := Lib.hid hto; have HL := Lib.hid hl10; have HA := Lib.hid hA; have hle1 : a1 ≤ s.size := hto.1
  have HP1 := Lib.hid hp; have HR1 := Lib.hid (HR0.out.off ho hrP); have HB1 : Hid (Below w.heap.size w w1) := HB0.out.trans (ho.below (fun k _ hk => by omega) HB0.out.size)
  have hsz1 := ho.size
  clear hda hp ho hto hl10 hA
  obtain ⟨J, hJ⟩ : ∃ J, w1.heap.size = J := ⟨_, rfl⟩
  obtain ⟨w2, hw2⟩ : ∃ w2, w1.alloc (.cells [(.int .i64 d.p.op), (.string d.p.tb), (.string d.p.co), (.string d.p.to), (.string d.p.key), (.int .i64 d.p.tk), (.int .i64 d.p.tm), (.bool d.p.nl), (.int .i64 d.p.dk), (.int .i64 d.p.dn), (.string d.p.ds), (.slice d.A d.p.cols.length d.cap)].toArray 28) = w2 := ⟨_, rfl⟩
  have hb2 : Below w1.heap.size w1 w2 := by rw [← hw2]; exact (Below.refl _ _).alloc (Nat.le_refl _) _
  have HJ2 : Hid (Bk 28 w2 J [(.int .i64 d.p.op), (.string d.p.tb), (.string d.p.co), (.string d.p.to), (.string d.p.key), (.int .i64 d.p.tk), (.int .i64 d.p.tm), (.bool d.p.nl), (.int .i64 d.p.dk), (.int .i64 d.p.dn), (.string d.p.ds), (.slice d.A d.p.cols.length d.cap)]) := by rw [← hw2, ← hJ]; exact Bk.new w1 _ _
  have HP2 := Lib.hid (HP1.out.below hb2); have HR2 := Lib.hid (HR1.out.below hb2); have HB2 : Hid (Below w.heap.size w w2) := HB1.out.trans (hb2.mono HB1.out.size); have HO2 : Hid (Off (fun k => k < wb.heap.size) w1 w2) := Off.of_below hb2
  have hJP : J ≠ P := by omega
  have hJr : J ≠ w.heap.size := by omega
  have Hsz1 := Lib.hid hsz1
  have Hw2 := Lib.hid hw2; have HJe := Lib.hid hJ; clear hw2 hb2 hJ hsz1
  go_upto_region 3 with fail
  rw [Hw2.out]
  try rw [HJe.out]
  go_wp2_with fail
  refine (rblanks_any P s a1 e1 _ HP2.out hle1 hs).mono ?_
  rintro en w3 ⟨rfl, hp, ho⟩
  have HP3 := Lib.hid hp; have HR3 := Lib.hid (HR2.out.off ho hrP); have HJ3 := Lib.hid (HJ2.out.off ho hJP); have HB3 : Hid (Below w.heap.size w w3) := HB2.out.trans (ho.below (fun k _ hk => by omega) HB2.out.size); have HO3 : Hid (Off (fun k => k < wb.heap.size) w1 w3) := HO2.out.trans (ho.mono (fun k _ hk => by omega))
  clear hp ho
  by_cases he1 : e1 = 0
  case neg =>
    have hnb : nbE s a1 e1 = a1 := if_neg he1
    rw [hnb] at HP3
    have HRs := Lib.hid (chg_bad HT.out he1)
    have t0 : ((e1 : Int) == 0) = false := by simp; omega
    have t1 : ((e1 : Int) != 0) = true := by simp; omega
    clear he1 hnb
    obtain ⟨c0, c1, c2⟩ := HP3.out.cells
    have r0 := HR3.out.at 0 _ rfl; have p0 := HR3.out.thaw 0
    have r1 := HR3.out.at 1 _ rfl; have p1 := HR3.out.thaw 1
    have r2 := HR3.out.at 2 _ rfl; have p2 := HR3.out.thaw 2
    have r3 := HR3.out.at 3 _ rfl; have p3 := HR3.out.thaw 3
    have r4 := HR3.out.at 4 _ rfl; have p4 := HR3.out.thaw 4
    have r5 := HR3.out.at 5 _ rfl; have p5 := HR3.out.thaw 5
    have r6 := HR3.out.at 6 _ rfl; have p6 := HR3.out.thaw 6
    have r7 := HR3.out.at 7 _ rfl; have p7 := HR3.out.thaw 7
    have r8 := HR3.out.at 8 _ rfl; have p8 := HR3.out.thaw 8
    have r9 := HR3.out.at 9 _ rfl; have p9 := HR3.out.thaw 9
    have r10 := HR3.out.at 10 _ rfl; have p10 := HR3.out.thaw 10
    have r11 := HR3.out.at 11 _ rfl; have p11 := HR3.out.thaw 11
    go_wp2_with fail
    go_big_region
    clear c0 c1 c2 r0 p0 r1 p1 r2 p2 r3 p3 r4 p4 r5 p5 r6 p6 r7 p7 r8 p8 r9 p9 r10 p10 r11 p11
    have k1 := ((((((((((((HR3.out.set 0 (.int .i64 0)).set 1 (.string ⟨#[]⟩)).set 2 (.string ⟨#[]⟩)).set 3 (.string ⟨#[]⟩)).set 4 (.string ⟨#[]⟩)).set 5 (.int .i64 0)).set 6 (.int .i64 0)).set 7 (.bool false)).set 8 (.int .i64 0)).set 9 (.int .i64 0)).set 10 (.string ⟨#[]⟩)).set 11 (.slice none 0 0))
    have kb := (Below.put (Below.put (Below.put (Below.put (Below.put (Below.put (Below.put (Below.put (Below.put (Below.put (Below.put (Below.put HB3.out w.heap.size 0 (.int .i64 0) (Nat.le_refl _)) w.heap.size 1 (.string ⟨#[]⟩) (Nat.le_refl _)) w.heap.size 2 (.string ⟨#[]⟩) (Nat.le_refl _)) w.heap.size 3 (.string ⟨#[]⟩) (Nat.le_refl _)) w.heap.size 4 (.string ⟨#[]⟩) (Nat.le_refl _)) w.heap.size 5 (.int .i64 0) (Nat.le_refl _)) w.heap.size 6 (.int .i64 0) (Nat.le_refl _)) w.heap.size 7 (.bool false) (Nat.le_refl _)) w.heap.size 8 (.int .i64 0) (Nat.le_refl _)) w.heap.size 9 (.int .i64 0) (Nat.le_refl _)) w.heap.size 10 (.string ⟨#[]⟩) (Nat.le_refl _)) w.heap.size 11 (.slice none 0 0) (Nat.le_refl _))
    obtain ⟨w9, hw9⟩ : ∃ w9, ((((((((((((w3.setCell ⟨w.heap.size, 0, none⟩ (.int .i64 0)).setCell ⟨w.heap.size, 1, none⟩ (.string ⟨#[]⟩)).setCell ⟨w.heap.size, 2, none⟩ (.string ⟨#[]⟩)).setCell ⟨w.heap.size, 3, none⟩ (.string ⟨#[]⟩)).setCell ⟨w.heap.size, 4, none⟩ (.string ⟨#[]⟩)).setCell ⟨w.heap.size, 5, none⟩ (.int .i64 0)).setCell ⟨w.heap.size, 6, none⟩ (.int .i64 0)).setCell ⟨w.heap.size, 7, none⟩ (.bool false)).setCell ⟨w.heap.size, 8, none⟩ (.int .i64 0)).setCell ⟨w.heap.size, 9, none⟩ (.int .i64 0)).setCell ⟨w.heap.size, 10, none⟩ (.string ⟨#[]⟩)).setCell ⟨w.heap.size, 11, none⟩ (.slice none 0 0)) = w9 := ⟨_, rfl⟩
    rw [hw9] at k1 kb ⊢
    clear hw9
    have K9 : Hid (Bk 28 w9.drew w.heap.size [(.int .i64 0), (.string ⟨#[]⟩), (.string ⟨#[]⟩), (.string ⟨#[]⟩), (.string ⟨#[]⟩), (.int .i64 0), (.int .i64 0), (.bool false), (.int .i64 0), (.int .i64 0), (.string ⟨#[]⟩), (.slice none 0 0)]) := k1.below (Below.refl _ _).drew
    have KB := Lib.hid kb.drew
    clear k1 kb
    go_wp2_with fail
    refine bodyPost_ret (results_D3 rfl _ rfl K9.out) rfl ?_
    exact ⟨KB.out, ⟨dp0 0 [], none, 0⟩, a1, e1, rfl, fun hp => absurd hp (by simp [dp0]), by simp [dp0], HRs.out⟩
  subst he1
  have hnb : nbE s a1 0 = nb s a1 := rfl
  rw [hnb] at HP3
  clear hnb
  have HQ := Lib.hid HT.out.q
  have Hle := Lib.hid (nb_le hle1).2
  have t0 : (((0 : Nat) : Int) == 0) = true := rfl
  have t1 : (((0 : Nat) : Int) != 0) = false := rfl
  by_cases hlt : nb s a1 < s.size
  · have HRs : Hid (PRes (bs s) (dp0 0 []) (nb s a1) 6) := chg_extra HQ.out (fun e => by
      have h2 := nb_drop hle1
      rw [e] at h2
      have h3 := congrArg List.length h2
      rw [List.length_drop, bs_length] at h3
      have h4 : ([] : List UInt8).length = 0 := rfl
      omega) hle1
    have hltI : ((nb s a1 : Nat) : Int) < (s.size : Int) := by omega
    clear hlt
    obtain ⟨c0, c1, c2⟩ := HP3.out.cells
    go_wp2_with fail
    refine (rbad_any P s (nb s a1) 0 6 _ HP3.out).mono ?_
    rintro en w4 ⟨rfl, hp, ho⟩
    have HP4 := Lib.hid hp; have HR4 := Lib.hid (HR3.out.off ho hrP); have HB4 : Hid (Below w.heap.size w w4) := HB3.out.trans (ho.below (fun k _ hk => by omega) HB3.out.size)
    clear hp ho c0 c1 c2
    obtain ⟨c0, c1, c2⟩ := HP4.out.cells
    have r0 := HR4.out.at 0 _ rfl; have p0 := HR4.out.thaw 0
    have r1 := HR4.out.at 1 _ rfl; have p1 := HR4.out.thaw 1
    have r2 := HR4.out.at 2 _ rfl; have p2 := HR4.out.thaw 2
    have r3 := HR4.out.at 3 _ rfl; have p3 := HR4.out.thaw 3
    have r4 := HR4.out.at 4 _ rfl; have p4 := HR4.out.thaw 4
    have r5 := HR4.out.at 5 _ rfl; have p5 := HR4.out.thaw 5
    have r6 := HR4.out.at 6 _ rfl; have p6 := HR4.out.thaw 6
    have r7 := HR4.out.at 7 _ rfl; have p7 := HR4.out.thaw 7
    have r8 := HR4.out.at 8 _ rfl; have p8 := HR4.out.thaw 8
    have r9 := HR4.out.at 9 _ rfl; have p9 := HR4.out.thaw 9
    have r10 := HR4.out.at 10 _ rfl; have p10 := HR4.out.thaw 10
    have r11 := HR4.out.at 11 _ rfl; have p11 := HR4.out.thaw 11
    go_wp2_with fail
    go_big_region
    clear c0 c1 c2 r0 p0 r1 p1 r2 p2 r3 p3 r4 p4 r5 p5 r6 p6 r7 p7 r8 p8 r9 p9 r10 p10 r11 p11
    have k1 := ((((((((((((HR4.out.set 0 (.int .i64 0)).set 1 (.string ⟨#[]⟩)).set 2 (.string ⟨#[]⟩)).set 3 (.string ⟨#[]⟩)).set 4 (.string ⟨#[]⟩)).set 5 (.int .i64 0)).set 6 (.int .i64 0)).set 7 (.bool false)).set 8 (.int .i64 0)).set 9 (.int .i64 0)).set 10 (.string ⟨#[]⟩)).set 11 (.slice none 0 0))
    have kb := (Below.put (Below.put (Below.put (Below.put (Below.put (Below.put (Below.put (Below.put (Below.put (Below.put (Below.put (Below.put HB4.out w.heap.size 0 (.int .i64 0) (Nat.le_refl _)) w.heap.size 1 (.string ⟨#[]⟩) (Nat.le_refl _)) w.heap.size 2 (.string ⟨#[]⟩) (Nat.le_refl _)) w.heap.size 3 (.string ⟨#[]⟩) (Nat.le_refl _)) w.heap.size 4 (.string ⟨#[]⟩) (Nat.le_refl _)) w.heap.size 5 (.int .i64 0) (Nat.le_refl _)) w.heap.size 6 (.int .i64 0) (Nat.le_refl _)) w.heap.size 7 (.bool false) (Nat.le_refl _)) w.heap.size 8 (.int .i64 0) (Nat.le_refl _)) w.heap.size 9 (.int .i64 0) (Nat.le_refl _)) w.heap.size 10 (.string ⟨#[]⟩) (Nat.le_refl _)) w.heap.size 11 (.slice none 0 0) (Nat.le_refl _))
    obtain ⟨w9, hw9⟩ : ∃ w9, ((((((((((((w4.setCell ⟨w.heap.size, 0, none⟩ (.int .i64 0)).setCell ⟨w.heap.size, 1, none⟩ (.string ⟨#[]⟩)).setCell ⟨w.heap.size, 2, none⟩ (.string ⟨#[]⟩)).setCell ⟨w.heap.size, 3, none⟩ (.string ⟨#[]⟩)).setCell ⟨w.heap.size, 4, none⟩ (.string ⟨#[]⟩)).setCell ⟨w.heap.size, 5, none⟩ (.int .i64 0)).setCell ⟨w.heap.size, 6, none⟩ (.int .i64 0)).setCell ⟨w.heap.size, 7, none⟩ (.bool false)).setCell ⟨w.heap.size, 8, none⟩ (.int .i64 0)).setCell ⟨w.heap.size, 9, none⟩ (.int .i64 0)).setCell ⟨w.heap.size, 10, none⟩ (.string ⟨#[]⟩)).setCell ⟨w.heap.size, 11, none⟩ (.slice none 0 0)) = w9 := ⟨_, rfl⟩
    rw [hw9] at k1 kb ⊢
    clear hw9
    have K9 : Hid (Bk 28 w9.drew w.heap.size [(.int .i64 0), (.string ⟨#[]⟩), (.string ⟨#[]⟩), (.string ⟨#[]⟩), (.string ⟨#[]⟩), (.int .i64 0), (.int .i64 0), (.bool false), (.int .i64 0), (.int .i64 0), (.string ⟨#[]⟩), (.slice none 0 0)]) := k1.below (Below.refl _ _).drew
    have KB := Lib.hid kb.drew
    clear k1 kb
    go_wp2_with fail
    refine bodyPost_ret (results_D3 rfl _ rfl K9.out) rfl ?_
    exact ⟨KB.out, ⟨dp0 0 [], none, 0⟩, nb s a1, 6, rfl, fun hp => absurd hp (by simp [dp0]), by simp [dp0], HRs.out⟩
  · have hge : nb s a1 = s.size := by have := Hle.out; omega
    have HRs : Hid (PRes (bs s) d.p s.size 0) := chg_ok HQ.out (by rw [← nb_drop hle1, hge]; exact List.drop_eq_nil_of_le (by rw [bs_length]; exact Nat.le_refl _))
    rw [hge] at HP3
    have hltI : ¬ ((s.size : Int) < (s.size : Int)) := by omega
    clear hge hlt
    obtain ⟨c0, c1, c2⟩ := HP3.out.cells
    have d0 := HJ3.out.at 0 _ rfl; have r0 := HR3.out.at 0 _ rfl; have p0 := HR3.out.thaw 0
    have d1 := HJ3.out.at 1 _ rfl; have r1 := HR3.out.at 1 _ rfl; have p1 := HR3.out.thaw 1
    have d2 := HJ3.out.at 2 _ rfl; have r2 := HR3.out.at 2 _ rfl; have p2 := HR3.out.thaw 2
    have d3 := HJ3.out.at 3 _ rfl; have r3 := HR3.out.at 3 _ rfl; have p3 := HR3.out.thaw 3
    have d4 := HJ3.out.at 4 _ rfl; have r4 := HR3.out.at 4 _ rfl; have p4 := HR3.out.thaw 4
    have d5 := HJ3.out.at 5 _ rfl; have r5 := HR3.out.at 5 _ rfl; have p5 := HR3.out.thaw 5
    have d6 := HJ3.out.at 6 _ rfl; have r6 := HR3.out.at 6 _ rfl; have p6 := HR3.out.thaw 6
    have d7 := HJ3.out.at 7 _ rfl; have r7 := HR3.out.at 7 _ rfl; have p7 := HR3.out.thaw 7
    have d8 := HJ3.out.at 8 _ rfl; have r8 := HR3.out.at 8 _ rfl; have p8 := HR3.out.thaw 8
    have d9 := HJ3.out.at 9 _ rfl; have r9 := HR3.out.at 9 _ rfl; have p9 := HR3.out.thaw 9
    have d10 := HJ3.out.at 10 _ rfl; have r10 := HR3.out.at 10 _ rfl; have p10 := HR3.out.thaw 10
    have d11 := HJ3.out.at 11 _ rfl; have r11 := HR3.out.at 11 _ rfl; have p11 := HR3.out.thaw 11
    go_wp2_with fail
    have k1 := ((((((((((((HR3.out.set 0 (.int .i64 d.p.op)).set 1 (.string d.p.tb)).set 2 (.string d.p.co)).set 3 (.string d.p.to)).set 4 (.string d.p.key)).set 5 (.int .i64 d.p.tk)).set 6 (.int .i64 d.p.tm)).set 7 (.bool d.p.nl)).set 8 (.int .i64 d.p.dk)).set 9 (.int .i64 d.p.dn)).set 10 (.string d.p.ds)).set 11 (.slice d.A d.p.cols.length d.cap))
    refine bodyPost_ret (results_D3 rfl _ rfl k1) rfl ?_
    have ko := (Off.old (Off.old (Off.old (Off.old (Off.old (Off.old (Off.old (Off.old (Off.old (Off.old (Off.old (Off.old HO3.out 0 (.int .i64 d.p.op) hrb) 1 (.string d.p.tb) hrb) 2 (.string d.p.co) hrb) 3 (.string d.p.to) hrb) 4 (.string d.p.key) hrb) 5 (.int .i64 d.p.tk) hrb) 6 (.int .i64 d.p.tm) hrb) 7 (.bool d.p.nl) hrb) 8 (.int .i64 d.p.dk) hrb) 9 (.int .i64 d.p.dn) hrb) 10 (.string d.p.ds) hrb) 11 (.slice d.A d.p.cols.length d.cap) hrb)
    exact ⟨(Below.put (Below.put (Below.put (Below.put (Below.put (Below.put (Below.put (Below.put (Below.put (Below.put (Below.put (Below.put HB3.out w.heap.size 0 (.int .i64 d.p.op) (Nat.le_refl _)) w.heap.size 1 (.string d.p.tb) (Nat.le_refl _)) w.heap.size 2 (.string d.p.co) (Nat.le_refl _)) w.heap.size 3 (.string d.p.to) (Nat.le_refl _)) w.heap.size 4 (.string d.p.key) (Nat.le_refl _)) w.heap.size 5 (.int .i64 d.p.tk) (Nat.le_refl _)) w.heap.size 6 (.int .i64 d.p.tm) (Nat.le_refl _)) w.heap.size 7 (.bool d.p.nl) (Nat.le_refl _)) w.heap.size 8 (.int .i64 d.p.dk) (Nat.le_refl _)) w.heap.size 9 (.int .i64 d.p.dn) (Nat.le_refl _)) w.heap.size 10 (.string d.p.ds) (Nat.le_refl _)) w.heap.size 11 (.slice d.A d.p.cols.length d.cap) (Nat.le_refl _)), d, s.size, 0, rfl, (RowAt.off HD.out ko (fun p hp => by have := HA.out p hp; omega)).more ko.size, HL.out, HRs.out⟩
end Go.Proofs.YtebldfnocpcddaaGreatDoor
