/-
  Texts that the proof needs, one behind the other: DtxRC4, DtxRC6, DtxRC7, DtxRC8.
-/
import Derived.BigRegion
import Derived.Test.YtebldfnocpcddaaGreatDoorPart30

/-
  The document's own parser of changes (layer 10): a change of kind 4.
-/
namespace Go.Proofs.YtebldfnocpcddaaGreatDoor
open Go.RowKit

set_option maxRecDepth 100000 in
set_option maxHeartbeats 12800000 in
theorem rchg4_any (b : Nat) (s : ByteArray) (a : Nat) (w : World) (h : PBx 67 w b s a 0) (ha : a ≤ s.size) (hs : s.size ≤ 1000000) (hop : opW (wd ((bs s).drop (nb s a))) = 4) :
    Calls Tryz.prog 33 #[.pointer (some ⟨b, 0, none⟩)] w fun en w' => RChg b s a w en w' := by
  have hlt := h.lt
  have hne : b ≠ w.heap.size := by omega
  obtain ⟨wa, hwa⟩ : ∃ wa, w.alloc (.cells [(.int .i64 0), (.string ⟨#[]⟩), (.string ⟨#[]⟩), (.string ⟨#[]⟩), (.string ⟨#[]⟩), (.int .i64 0), (.int .i64 0), (.bool false), (.int .i64 0), (.int .i64 0), (.string ⟨#[]⟩), (.slice none 0 0)].toArray 28) = wa := ⟨_, rfl⟩
  have hba : Below w.heap.size w wa := by rw [← hwa]; exact (Below.refl _ _).alloc (Nat.le_refl _) _
  have HR0 : Hid (Bk 28 wa w.heap.size [(.int .i64 0), (.string ⟨#[]⟩), (.string ⟨#[]⟩), (.string ⟨#[]⟩), (.string ⟨#[]⟩), (.int .i64 0), (.int .i64 0), (.bool false), (.int .i64 0), (.int .i64 0), (.string ⟨#[]⟩), (.slice none 0 0)]) := by rw [← hwa]; exact Bk.new w _ _
  have hsa : wa.heap.size = w.heap.size + 1 := by rw [← hwa]; simp
  have Hwa := Lib.hid hwa; clear hwa
  have HO0 := Lib.hid (Off.of_below (S := fun k => k = b) hba)
  have HP0 := Lib.hid (h.below hba); clear hba h
  obtain ⟨y, hy⟩ : ∃ y, bs y = wd ((bs s).drop (nb s a)) := ⟨strB _, rfl⟩
  have hle := wd_len (nb_le ha).2
  rw [← hy, bs_length] at hle
  have HB := Lib.hid (rpeek_any b s a 0 y wa HP0.out ha hs hy)
  have Hnb : Hid (nbE s a 0 = nb s a) := rfl
  have HQ : Hid (∀ w, Calls Tryz.prog 61 #[.string y] w fun en w' => en = .returned (.int .i64 4) ∧ Below w.heap.size w w') := fun w => by
    have := rop_any y w
    rw [hy, hop] at this
    exact this
  have HCH : Hid (∀ {n a2 e2 x a' e'}, PTo pName s (nb s a + y.size) 0 n a2 e2 → PTo (pRest 4 n) s a2 e2 x a' e' → PTo pChange s a 0 x a' e') := fun h1 h2 => chg_seq (nb_le ha).2 (nb_drop ha).symm hop (by decide) (by rw [← hy, bs_length]) h1 h2
  have Hle1 := Lib.hid hle
  have w1 : IntKind.i64.wrap (((nb s a : Nat) : Int) + (y.size : Int)) = ((nb s a + y.size : Nat) : Int) := by rw [IntWalk.i64_in _ (by omega)]; rfl
  clear hy hop hle
  go_enter Tryz.func33, Tryz.ntmps33
  go_wp2_with fail
  rw [Hwa.out]
  refine HB.out.mono ?_
  rintro en w1 ⟨rfl, hp, ho⟩
  rw [Hnb.out] at hp
  have HP1 := Lib.hid hp; have HO1 := Lib.hid (HO0.out.trans ho); have HR1 := Lib.hid (HR0.out.off ho (fun h => hne h.symm))
  have hsz : w.heap.size + 1 ≤ w1.heap.size := by rw [← hsa]; exact ho.size
  clear hp ho
  go_wp2_with fail
  refine (HQ.out _).mono ?_
  rintro en w2 ⟨rfl, hb⟩
  have HP2 := Lib.hid (HP1.out.below hb); have HO2 := Lib.hid (HO1.out.then hb); have HR2 := Lib.hid (HR1.out.below hb)
  have hsz2 := hb.size
  clear hb
  obtain ⟨J, hJ⟩ : ∃ J, w2.heap.size = J := ⟨_, rfl⟩
  obtain ⟨w3, hw3⟩ : ∃ w3, w2.alloc (.cells [(.int .i64 4), (.string ⟨#[]⟩), (.string ⟨#[]⟩), (.string ⟨#[]⟩), (.string ⟨#[]⟩), (.int .i64 0), (.int .i64 0), (.bool false), (.int .i64 0), (.int .i64 0), (.string ⟨#[]⟩), (.slice none 0 0)].toArray 28) = w3 := ⟨_, rfl⟩
  have hb3 : Below w2.heap.size w2 w3 := by rw [← hw3]; exact (Below.refl _ _).alloc (Nat.le_refl _) _
  have HJ3 : Hid (Bk 28 w3 J [(.int .i64 4), (.string ⟨#[]⟩), (.string ⟨#[]⟩), (.string ⟨#[]⟩), (.string ⟨#[]⟩), (.int .i64 0), (.int .i64 0), (.bool false), (.int .i64 0), (.int .i64 0), (.string ⟨#[]⟩), (.slice none 0 0)]) := by rw [← hw3, ← hJ]; exact Bk.new w2 _ _
  have HP3 := Lib.hid (HP2.out.below hb3); have HO3 := Lib.hid (HO2.out.then hb3); have HR3 := Lib.hid (HR2.out.below hb3)
  have hrJ : J ≠ w.heap.size := by omega
  have hnJ : b ≠ J := by have := HP2.out.lt; omega
  have hwJ : w.heap.size ≤ J := by omega
  have hJb : J ≠ b := fun e => hnJ e.symm
  have hrb : w.heap.size ≠ b := fun e => hne e.symm
  have HJe := Lib.hid hJ
  have Hw3 := Lib.hid hw3; clear hw3 hb3
  go_upto_region 3 with fail
  rw [Hw3.out]
  try rw [HJe.out]
  obtain ⟨c0, c1, c2⟩ := HP3.out.cells
  have f1 := HP3.out.frozen 1
  have d0 := HJ3.out.at 0 _ rfl
  clear hsz hsz2 hJ hsa
  go_wp2_with fail
  have HP4 := Lib.hid (HP3.out.setA (nb s a + y.size)); have HO4 := Lib.hid (HO3.out.in 1 (.int .i64 ((nb s a + y.size : Nat) : Int))); have HR4 := Lib.hid (HR3.out.put b 1 (.int .i64 ((nb s a + y.size : Nat) : Int)) hne); have HJ4 := Lib.hid (HJ3.out.put b 1 (.int .i64 ((nb s a + y.size : Nat) : Int)) hnJ)
  clear c0 c1 c2 f1 d0
  refine (rname_any b s (nb s a + y.size) 0 _ HP4.out Hle1.out hs).mono ?_
  rintro en w5 ⟨n5, a5, e5, rfl, hp, ho, hto⟩
  have HP5 := Lib.hid hp; have HO5 := Lib.hid (HO4.out.trans ho); have HR5 := Lib.hid (HR4.out.off ho hrb); have HJ5 := Lib.hid (HJ4.out.off ho hJb); have HT5 := Lib.hid hto; have HL5 := Lib.hid hto.1
  clear hp ho hto
  have c1 := HJ5.out.at 1 _ rfl; have q1 := HJ5.out.thaw 1
  have d0 := HJ5.out.at 0 _ rfl
  go_wp2_with fail
  clear d0 c1 q1
  have HJ6 : Hid (Bk 28 _ J [(.int .i64 4), (.string (strB n5)), (.string ⟨#[]⟩), (.string ⟨#[]⟩), (.string ⟨#[]⟩), (.int .i64 0), (.int .i64 0), (.bool false), (.int .i64 0), (.int .i64 0), (.string ⟨#[]⟩), (.slice none 0 0)]) := (HJ5.out.set 1 (.string (strB n5)))
  have HR6 := Lib.hid (HR5.out.put J 1 (.string (strB n5)) hrJ); have HO6 := Lib.hid (HO5.out.put J 1 (.string (strB n5)) hwJ); have HP6 := Lib.hid (HP5.out.put J 1 (.string (strB n5)) hJb)
  refine (rcolumn_any b s a5 e5 _ HP6.out HL5.out hs).mono ?_
  rintro en w7 ⟨⟨cid, cnm, ctk, ctm, cnl, cdk, cdn, cds⟩, a7, e7, rfl, hp, ho, hto⟩
  have HP7 := Lib.hid hp; have HO7 := Lib.hid (HO6.out.trans ho); have HR7 := Lib.hid (HR6.out.off ho hrb); have HJ7 := Lib.hid (HJ6.out.off ho hJb); have HT7 := Lib.hid hto; have HL7 := Lib.hid hto.1
  clear hp ho hto
  obtain ⟨K, hK⟩ : ∃ K, w7.heap.size = K := ⟨_, rfl⟩
  obtain ⟨wx, hwx⟩ : ∃ wx, w7.alloc (.cells [.int .i64 cid, .string cnm, .int .i64 ctk, .int .i64 ctm, .bool cnl, .int .i64 cdk, .int .i64 cdn, .string cds].toArray 56) = wx := ⟨_, rfl⟩
  have hbx : Below w7.heap.size w7 wx := by rw [← hwx]; exact (Below.refl _ _).alloc (Nat.le_refl _) _
  have HK : Hid (Bk 56 wx K [.int .i64 cid, .string cnm, .int .i64 ctk, .int .i64 ctm, .bool cnl, .int .i64 cdk, .int .i64 cdn, .string cds]) := by rw [← hwx, ← hK]; exact Bk.new w7 _ _
  have HPx := Lib.hid (HP7.out.below hbx); have HOx := Lib.hid (HO7.out.then hbx); have HRx := Lib.hid (HR7.out.below hbx); have HJx := Lib.hid (HJ7.out.below hbx)
  have hKJ : K ≠ J := by have := HJ7.out.lt; omega
  have hJK : J ≠ K := fun e => hKJ e.symm
  have Hwx := Lib.hid hwx; have HKe := Lib.hid hK; clear hwx hbx hK
  go_upto_region 18 with fail
  rw [Hwx.out]
  try rw [HKe.out]
  have k1 := HK.out.at 1 _ rfl
  have k2 := HK.out.at 2 _ rfl
  have k3 := HK.out.at 3 _ rfl
  have k4 := HK.out.at 4 _ rfl
  have k5 := HK.out.at 5 _ rfl
  have k6 := HK.out.at 6 _ rfl
  have k7 := HK.out.at 7 _ rfl
  have c2 := HJx.out.at 2 _ rfl; have q2 := HJx.out.thaw 2
  have c5 := HJx.out.at 5 _ rfl; have q5 := HJx.out.thaw 5
  have c6 := HJx.out.at 6 _ rfl; have q6 := HJx.out.thaw 6
  have c7 := HJx.out.at 7 _ rfl; have q7 := HJx.out.thaw 7
  have c8 := HJx.out.at 8 _ rfl; have q8 := HJx.out.thaw 8
  have c9 := HJx.out.at 9 _ rfl; have q9 := HJx.out.thaw 9
  have c10 := HJx.out.at 10 _ rfl; have q10 := HJx.out.thaw 10
  go_big_region
  clear k1 k2 k3 k4 k5 k6 k7 hKJ hJK c2 q2 c5 q5 c6 q6 c7 q7 c8 q8 c9 q9 c10 q10
  have hJy := (((((((HJx.out.set 2 (.string cnm)).set 5 (.int .i64 ctk)).set 6 (.int .i64 ctm)).set 7 (.bool cnl)).set 8 (.int .i64 cdk)).set 9 (.int .i64 cdn)).set 10 (.string cds))
  have hRy := (((((((HRx.out.put J 2 (.string cnm) hrJ).put J 5 (.int .i64 ctk) hrJ).put J 6 (.int .i64 ctm) hrJ).put J 7 (.bool cnl) hrJ).put J 8 (.int .i64 cdk) hrJ).put J 9 (.int .i64 cdn) hrJ).put J 10 (.string cds) hrJ)
  have hOy := (((((((HOx.out.put J 2 (.string cnm) hwJ).put J 5 (.int .i64 ctk) hwJ).put J 6 (.int .i64 ctm) hwJ).put J 7 (.bool cnl) hwJ).put J 8 (.int .i64 cdk) hwJ).put J 9 (.int .i64 cdn) hwJ).put J 10 (.string cds) hwJ)
  have hPy := (((((((HPx.out.put J 2 (.string cnm) hJb).put J 5 (.int .i64 ctk) hJb).put J 6 (.int .i64 ctm) hJb).put J 7 (.bool cnl) hJb).put J 8 (.int .i64 cdk) hJb).put J 9 (.int .i64 cdn) hJb).put J 10 (.string cds) hJb)
  obtain ⟨wy, hwy⟩ : ∃ wy, (((((((wx.setCell ⟨J, 2, none⟩ (.string cnm)).setCell ⟨J, 5, none⟩ (.int .i64 ctk)).setCell ⟨J, 6, none⟩ (.int .i64 ctm)).setCell ⟨J, 7, none⟩ (.bool cnl)).setCell ⟨J, 8, none⟩ (.int .i64 cdk)).setCell ⟨J, 9, none⟩ (.int .i64 cdn)).setCell ⟨J, 10, none⟩ (.string cds)) = wy := ⟨_, rfl⟩
  rw [hwy] at hJy hRy hOy hPy ⊢
  clear hwy
  have HJ9 : Hid (Bk 28 wy.drew J [(.int .i64 4), (.string (strB n5)), (.string cnm), (.string ⟨#[]⟩), (.string ⟨#[]⟩), (.int .i64 ctk), (.int .i64 ctm), (.bool cnl), (.int .i64 cdk), (.int .i64 cdn), (.string cds), (.slice none 0 0)]) := hJy.below (Below.refl _ _).drew
  have HR9 : Hid (Bk 28 wy.drew w.heap.size [(.int .i64 0), (.string ⟨#[]⟩), (.string ⟨#[]⟩), (.string ⟨#[]⟩), (.string ⟨#[]⟩), (.int .i64 0), (.int .i64 0), (.bool false), (.int .i64 0), (.int .i64 0), (.string ⟨#[]⟩), (.slice none 0 0)]) := hRy.below (Below.refl _ _).drew
  have HO9 : Hid (Off (fun k => k = b) w wy.drew) := hOy.then (Below.refl _ _).drew
  have HP9 : Hid (PBx 67 wy.drew b s a7 e7) := hPy.below (Below.refl _ _).drew
  clear hJy hRy hOy hPy
  generalize wy.drew = wd at HJ9 HR9 HO9 HP9 ⊢
  have d0 := HJ9.out.at 0 _ rfl; have r0 := HR9.out.at 0 _ rfl; have p0 := HR9.out.thaw 0
  have d1 := HJ9.out.at 1 _ rfl; have r1 := HR9.out.at 1 _ rfl; have p1 := HR9.out.thaw 1
  have d2 := HJ9.out.at 2 _ rfl; have r2 := HR9.out.at 2 _ rfl; have p2 := HR9.out.thaw 2
  have d3 := HJ9.out.at 3 _ rfl; have r3 := HR9.out.at 3 _ rfl; have p3 := HR9.out.thaw 3
  have d4 := HJ9.out.at 4 _ rfl; have r4 := HR9.out.at 4 _ rfl; have p4 := HR9.out.thaw 4
  have d5 := HJ9.out.at 5 _ rfl; have r5 := HR9.out.at 5 _ rfl; have p5 := HR9.out.thaw 5
  have d6 := HJ9.out.at 6 _ rfl; have r6 := HR9.out.at 6 _ rfl; have p6 := HR9.out.thaw 6
  have d7 := HJ9.out.at 7 _ rfl; have r7 := HR9.out.at 7 _ rfl; have p7 := HR9.out.thaw 7
  have d8 := HJ9.out.at 8 _ rfl; have r8 := HR9.out.at 8 _ rfl; have p8 := HR9.out.thaw 8
  have d9 := HJ9.out.at 9 _ rfl; have r9 := HR9.out.at 9 _ rfl; have p9 := HR9.out.thaw 9
  have d10 := HJ9.out.at 10 _ rfl; have r10 := HR9.out.at 10 _ rfl; have p10 := HR9.out.thaw 10
  have d11 := HJ9.out.at 11 _ rfl; have r11 := HR9.out.at 11 _ rfl; have p11 := HR9.out.thaw 11
  go_wp2_with fail
  refine bodyPost_ret (results_kD rfl _ rfl ((((((((((((HR9.out.set 0 (.int .i64 4)).set 1 (.string (strB n5))).set 2 (.string cnm)).set 3 (.string ⟨#[]⟩)).set 4 (.string ⟨#[]⟩)).set 5 (.int .i64 ctk)).set 6 (.int .i64 ctm)).set 7 (.bool cnl)).set 8 (.int .i64 cdk)).set 9 (.int .i64 cdn)).set 10 (.string cds)).set 11 (.slice none 0 0))) rfl ?_
  exact ⟨⟨{ dp0 4 n5 with co := cnm, tk := ctk, tm := ctm, nl := cnl, dk := cdk, dn := cdn, ds := cds }, none, 0⟩, a7, e7, rfl, fun hp => absurd hp (by simp [dp0]), ((((((((((((HP9.out.put w.heap.size 0 (.int .i64 4) hrb).put w.heap.size 1 (.string (strB n5)) hrb).put w.heap.size 2 (.string cnm) hrb).put w.heap.size 3 (.string ⟨#[]⟩) hrb).put w.heap.size 4 (.string ⟨#[]⟩) hrb).put w.heap.size 5 (.int .i64 ctk) hrb).put w.heap.size 6 (.int .i64 ctm) hrb).put w.heap.size 7 (.bool cnl) hrb).put w.heap.size 8 (.int .i64 cdk) hrb).put w.heap.size 9 (.int .i64 cdn) hrb).put w.heap.size 10 (.string cds) hrb).put w.heap.size 11 (.slice none 0 0) hrb), ((((((((((((HO9.out.put w.heap.size 0 (.int .i64 4) (Nat.le_refl _)).put w.heap.size 1 (.string (strB n5)) (Nat.le_refl _)).put w.heap.size 2 (.string cnm) (Nat.le_refl _)).put w.heap.size 3 (.string ⟨#[]⟩) (Nat.le_refl _)).put w.heap.size 4 (.string ⟨#[]⟩) (Nat.le_refl _)).put w.heap.size 5 (.int .i64 ctk) (Nat.le_refl _)).put w.heap.size 6 (.int .i64 ctm) (Nat.le_refl _)).put w.heap.size 7 (.bool cnl) (Nat.le_refl _)).put w.heap.size 8 (.int .i64 cdk) (Nat.le_refl _)).put w.heap.size 9 (.int .i64 cdn) (Nat.le_refl _)).put w.heap.size 10 (.string cds) (Nat.le_refl _)).put w.heap.size 11 (.slice none 0 0) (Nat.le_refl _)), HCH.out HT5.out (rest_4 HT7.out), by simp [dp0], fun p hp => by cases hp⟩
end Go.Proofs.YtebldfnocpcddaaGreatDoor

/-
  The document's own parser of changes (layer 10): a change of kind 6.
-/
namespace Go.Proofs.YtebldfnocpcddaaGreatDoor
open Go.RowKit

set_option maxRecDepth 100000 in
set_option maxHeartbeats 12800000 in
theorem rchg6_any (b : Nat) (s : ByteArray) (a : Nat) (w : World) (h : PBx 67 w b s a 0) (ha : a ≤ s.size) (hs : s.size ≤ 1000000) (hop : opW (wd ((bs s).drop (nb s a))) = 6) :
    Calls Tryz.prog 33 #[.pointer (some ⟨b, 0, none⟩)] w fun en w' => RChg b s a w en w' := by
  have hlt := h.lt
  have hne : b ≠ w.heap.size := by omega
  obtain ⟨wa, hwa⟩ : ∃ wa, w.alloc (.cells [(.int .i64 0), (.string ⟨#[]⟩), (.string ⟨#[]⟩), (.string ⟨#[]⟩), (.string ⟨#[]⟩), (.int .i64 0), (.int .i64 0), (.bool false), (.int .i64 0), (.int .i64 0), (.string ⟨#[]⟩), (.slice none 0 0)].toArray 28) = wa := ⟨_, rfl⟩
  have hba : Below w.heap.size w wa := by rw [← hwa]; exact (Below.refl _ _).alloc (Nat.le_refl _) _
  have HR0 : Hid (Bk 28 wa w.heap.size [(.int .i64 0), (.string ⟨#[]⟩), (.string ⟨#[]⟩), (.string ⟨#[]⟩), (.string ⟨#[]⟩), (.int .i64 0), (.int .i64 0), (.bool false), (.int .i64 0), (.int .i64 0), (.string ⟨#[]⟩), (.slice none 0 0)]) := by rw [← hwa]; exact Bk.new w _ _
  have hsa : wa.heap.size = w.heap.size + 1 := by rw [← hwa]; simp
  have Hwa := Lib.hid hwa; clear hwa
  have HO0 := Lib.hid (Off.of_below (S := fun k => k = b) hba)
  have HP0 := Lib.hid (h.below hba); clear hba h
  obtain ⟨y, hy⟩ : ∃ y, bs y = wd ((bs s).drop (nb s a)) := ⟨strB _, rfl⟩
  have hle := wd_len (nb_le ha).2
  rw [← hy, bs_length] at hle
  have HB := Lib.hid (rpeek_any b s a 0 y wa HP0.out ha hs hy)
  have Hnb : Hid (nbE s a 0 = nb s a) := rfl
  have HQ : Hid (∀ w, Calls Tryz.prog 61 #[.string y] w fun en w' => en = .returned (.int .i64 6) ∧ Below w.heap.size w w') := fun w => by
    have := rop_any y w
    rw [hy, hop] at this
    exact this
  have HCH : Hid (∀ {n a2 e2 x a' e'}, PTo pName s (nb s a + y.size) 0 n a2 e2 → PTo (pRest 6 n) s a2 e2 x a' e' → PTo pChange s a 0 x a' e') := fun h1 h2 => chg_seq (nb_le ha).2 (nb_drop ha).symm hop (by decide) (by rw [← hy, bs_length]) h1 h2
  have Hle1 := Lib.hid hle
  have w1 : IntKind.i64.wrap (((nb s a : Nat) : Int) + (y.size : Int)) = ((nb s a + y.size : Nat) : Int) := by rw [IntWalk.i64_in _ (by omega)]; rfl
  clear hy hop hle
  go_enter Tryz.func33, Tryz.ntmps33
  go_wp2_with fail
  rw [Hwa.out]
  refine HB.out.mono ?_
  rintro en w1 ⟨rfl, hp, ho⟩
  rw [Hnb.out] at hp
  have HP1 := Lib.hid hp; have HO1 := Lib.hid (HO0.out.trans ho); have HR1 := Lib.hid (HR0.out.off ho (fun h => hne h.symm))
  have hsz : w.heap.size + 1 ≤ w1.heap.size := by rw [← hsa]; exact ho.size
  clear hp ho
  go_wp2_with fail
  refine (HQ.out _).mono ?_
  rintro en w2 ⟨rfl, hb⟩
  have HP2 := Lib.hid (HP1.out.below hb); have HO2 := Lib.hid (HO1.out.then hb); have HR2 := Lib.hid (HR1.out.below hb)
  have hsz2 := hb.size
  clear hb
  obtain ⟨J, hJ⟩ : ∃ J, w2.heap.size = J := ⟨_, rfl⟩
  obtain ⟨w3, hw3⟩ : ∃ w3, w2.alloc (.cells [(.int .i64 6), (.string ⟨#[]⟩), (.string ⟨#[]⟩), (.string ⟨#[]⟩), (.string ⟨#[]⟩), (.int .i64 0), (.int .i64 0), (.bool false), (.int .i64 0), (.int .i64 0), (.string ⟨#[]⟩), (.slice none 0 0)].toArray 28) = w3 := ⟨_, rfl⟩
  have hb3 : Below w2.heap.size w2 w3 := by rw [← hw3]; exact (Below.refl _ _).alloc (Nat.le_refl _) _
  have HJ3 : Hid (Bk 28 w3 J [(.int .i64 6), (.string ⟨#[]⟩), (.string ⟨#[]⟩), (.string ⟨#[]⟩), (.string ⟨#[]⟩), (.int .i64 0), (.int .i64 0), (.bool false), (.int .i64 0), (.int .i64 0), (.string ⟨#[]⟩), (.slice none 0 0)]) := by rw [← hw3, ← hJ]; exact Bk.new w2 _ _
  have HP3 := Lib.hid (HP2.out.below hb3); have HO3 := Lib.hid (HO2.out.then hb3); have HR3 := Lib.hid (HR2.out.below hb3)
  have hrJ : J ≠ w.heap.size := by omega
  have hnJ : b ≠ J := by have := HP2.out.lt; omega
  have hwJ : w.heap.size ≤ J := by omega
  have hJb : J ≠ b := fun e => hnJ e.symm
  have hrb : w.heap.size ≠ b := fun e => hne e.symm
  have HJe := Lib.hid hJ
  have Hw3 := Lib.hid hw3; clear hw3 hb3
  go_upto_region 3 with fail
  rw [Hw3.out]
  try rw [HJe.out]
  obtain ⟨c0, c1, c2⟩ := HP3.out.cells
  have f1 := HP3.out.frozen 1
  have d0 := HJ3.out.at 0 _ rfl
  clear hsz hsz2 hJ hsa
  go_wp2_with fail
  have HP4 := Lib.hid (HP3.out.setA (nb s a + y.size)); have HO4 := Lib.hid (HO3.out.in 1 (.int .i64 ((nb s a + y.size : Nat) : Int))); have HR4 := Lib.hid (HR3.out.put b 1 (.int .i64 ((nb s a + y.size : Nat) : Int)) hne); have HJ4 := Lib.hid (HJ3.out.put b 1 (.int .i64 ((nb s a + y.size : Nat) : Int)) hnJ)
  clear c0 c1 c2 f1 d0
  refine (rname_any b s (nb s a + y.size) 0 _ HP4.out Hle1.out hs).mono ?_
  rintro en w5 ⟨n5, a5, e5, rfl, hp, ho, hto⟩
  have HP5 := Lib.hid hp; have HO5 := Lib.hid (HO4.out.trans ho); have HR5 := Lib.hid (HR4.out.off ho hrb); have HJ5 := Lib.hid (HJ4.out.off ho hJb); have HT5 := Lib.hid hto; have HL5 := Lib.hid hto.1
  clear hp ho hto
  have c1 := HJ5.out.at 1 _ rfl; have q1 := HJ5.out.thaw 1
  have d0 := HJ5.out.at 0 _ rfl
  go_wp2_with fail
  clear d0 c1 q1
  have HJ6 : Hid (Bk 28 _ J [(.int .i64 6), (.string (strB n5)), (.string ⟨#[]⟩), (.string ⟨#[]⟩), (.string ⟨#[]⟩), (.int .i64 0), (.int .i64 0), (.bool false), (.int .i64 0), (.int .i64 0), (.string ⟨#[]⟩), (.slice none 0 0)]) := (HJ5.out.set 1 (.string (strB n5)))
  have HR6 := Lib.hid (HR5.out.put J 1 (.string (strB n5)) hrJ); have HO6 := Lib.hid (HO5.out.put J 1 (.string (strB n5)) hwJ); have HP6 := Lib.hid (HP5.out.put J 1 (.string (strB n5)) hJb)
  refine (rname_any b s a5 e5 _ HP6.out HL5.out hs).mono ?_
  rintro en w7 ⟨n7, a7, e7, rfl, hp, ho, hto⟩
  have HP7 := Lib.hid hp; have HO7 := Lib.hid (HO6.out.trans ho); have HR7 := Lib.hid (HR6.out.off ho hrb); have HJ7 := Lib.hid (HJ6.out.off ho hJb); have HT7 := Lib.hid hto; have HL7 := Lib.hid hto.1
  clear hp ho hto
  have c2 := HJ7.out.at 2 _ rfl; have q2 := HJ7.out.thaw 2
  have d0 := HJ7.out.at 0 _ rfl
  go_wp2_with fail
  clear d0 c2 q2
  have HJ8 : Hid (Bk 28 _ J [(.int .i64 6), (.string (strB n5)), (.string (strB n7)), (.string ⟨#[]⟩), (.string ⟨#[]⟩), (.int .i64 0), (.int .i64 0), (.bool false), (.int .i64 0), (.int .i64 0), (.string ⟨#[]⟩), (.slice none 0 0)]) := (HJ7.out.set 2 (.string (strB n7)))
  have HR8 := Lib.hid (HR7.out.put J 2 (.string (strB n7)) hrJ); have HO8 := Lib.hid (HO7.out.put J 2 (.string (strB n7)) hwJ); have HP8 := Lib.hid (HP7.out.put J 2 (.string (strB n7)) hJb)
  refine (rwant_any b s a7 e7 ⟨#[116, 111]⟩ _ HP8.out HL7.out hs (by decide) ⟨by decide, by decide, by decide⟩).mono ?_
  rintro en w9 ⟨z9, a9, e9, rfl, hp, ho, hto⟩
  have HP9 := Lib.hid hp; have HO9 := Lib.hid (HO8.out.trans ho); have HR9 := Lib.hid (HR8.out.off ho hrb); have HJ9 := Lib.hid (HJ8.out.off ho hJb); have HT9 := Lib.hid hto; have HL9 := Lib.hid hto.1
  have HT9 : Hid (PTo (fun r => (pWord toT r).bind fun q => .ok ((), q)) s a7 e7 z9 a9 e9) := hto
  clear hp ho hto
  go_wp2_with fail
  refine (rname_any b s a9 e9 _ HP9.out HL9.out hs).mono ?_
  rintro en w10 ⟨n10, a10, e10, rfl, hp, ho, hto⟩
  have HP10 := Lib.hid hp; have HO10 := Lib.hid (HO9.out.trans ho); have HR10 := Lib.hid (HR9.out.off ho hrb); have HJ10 := Lib.hid (HJ9.out.off ho hJb); have HT10 := Lib.hid hto; have HL10 := Lib.hid hto.1
  clear hp ho hto
  have d0 := HJ10.out.at 0 _ rfl; have r0 := HR10.out.at 0 _ rfl; have p0 := HR10.out.thaw 0
  have d1 := HJ10.out.at 1 _ rfl; have r1 := HR10.out.at 1 _ rfl; have p1 := HR10.out.thaw 1
  have d2 := HJ10.out.at 2 _ rfl; have r2 := HR10.out.at 2 _ rfl; have p2 := HR10.out.thaw 2
  have d3 := HJ10.out.at 3 _ rfl; have r3 := HR10.out.at 3 _ rfl; have p3 := HR10.out.thaw 3
  have d4 := HJ10.out.at 4 _ rfl; have r4 := HR10.out.at 4 _ rfl; have p4 := HR10.out.thaw 4
  have d5 := HJ10.out.at 5 _ rfl; have r5 := HR10.out.at 5 _ rfl; have p5 := HR10.out.thaw 5
  have d6 := HJ10.out.at 6 _ rfl; have r6 := HR10.out.at 6 _ rfl; have p6 := HR10.out.thaw 6
  have d7 := HJ10.out.at 7 _ rfl; have r7 := HR10.out.at 7 _ rfl; have p7 := HR10.out.thaw 7
  have d8 := HJ10.out.at 8 _ rfl; have r8 := HR10.out.at 8 _ rfl; have p8 := HR10.out.thaw 8
  have d9 := HJ10.out.at 9 _ rfl; have r9 := HR10.out.at 9 _ rfl; have p9 := HR10.out.thaw 9
  have d10 := HJ10.out.at 10 _ rfl; have r10 := HR10.out.at 10 _ rfl; have p10 := HR10.out.thaw 10
  have d11 := HJ10.out.at 11 _ rfl; have r11 := HR10.out.at 11 _ rfl; have p11 := HR10.out.thaw 11
  have q3 := HJ10.out.thaw 3
  go_wp2_with fail
  refine bodyPost_ret (results_kD rfl _ rfl (((((((((((((HR10.out.put J 3 (.string (strB n10)) hrJ).set 0 (.int .i64 6)).set 1 (.string (strB n5))).set 2 (.string (strB n7))).set 3 (.string (strB n10))).set 4 (.string ⟨#[]⟩)).set 5 (.int .i64 0)).set 6 (.int .i64 0)).set 7 (.bool false)).set 8 (.int .i64 0)).set 9 (.int .i64 0)).set 10 (.string ⟨#[]⟩)).set 11 (.slice none 0 0))) rfl ?_
  exact ⟨⟨{ dp0 6 n5 with co := strB n7, «to» := strB n10 }, none, 0⟩, a10, e10, rfl, fun hp => absurd hp (by simp [dp0]), (((((((((((((HP10.out.put J 3 (.string (strB n10)) hJb).put w.heap.size 0 (.int .i64 6) hrb).put w.heap.size 1 (.string (strB n5)) hrb).put w.heap.size 2 (.string (strB n7)) hrb).put w.heap.size 3 (.string (strB n10)) hrb).put w.heap.size 4 (.string ⟨#[]⟩) hrb).put w.heap.size 5 (.int .i64 0) hrb).put w.heap.size 6 (.int .i64 0) hrb).put w.heap.size 7 (.bool false) hrb).put w.heap.size 8 (.int .i64 0) hrb).put w.heap.size 9 (.int .i64 0) hrb).put w.heap.size 10 (.string ⟨#[]⟩) hrb).put w.heap.size 11 (.slice none 0 0) hrb), (((((((((((((HO10.out.put J 3 (.string (strB n10)) hwJ).put w.heap.size 0 (.int .i64 6) (Nat.le_refl _)).put w.heap.size 1 (.string (strB n5)) (Nat.le_refl _)).put w.heap.size 2 (.string (strB n7)) (Nat.le_refl _)).put w.heap.size 3 (.string (strB n10)) (Nat.le_refl _)).put w.heap.size 4 (.string ⟨#[]⟩) (Nat.le_refl _)).put w.heap.size 5 (.int .i64 0) (Nat.le_refl _)).put w.heap.size 6 (.int .i64 0) (Nat.le_refl _)).put w.heap.size 7 (.bool false) (Nat.le_refl _)).put w.heap.size 8 (.int .i64 0) (Nat.le_refl _)).put w.heap.size 9 (.int .i64 0) (Nat.le_refl _)).put w.heap.size 10 (.string ⟨#[]⟩) (Nat.le_refl _)).put w.heap.size 11 (.slice none 0 0) (Nat.le_refl _)), HCH.out HT5.out (rest_6 HT7.out HT9.out HT10.out), by simp [dp0], fun p hp => by cases hp⟩
end Go.Proofs.YtebldfnocpcddaaGreatDoor

/-
  The document's own parser of changes (layer 10): a change of kind 7.
-/
namespace Go.Proofs.YtebldfnocpcddaaGreatDoor
open Go.RowKit

set_option maxRecDepth 100000 in
set_option maxHeartbeats 12800000 in
theorem rchg7_any (b : Nat) (s : ByteArray) (a : Nat) (w : World) (h : PBx 67 w b s a 0) (ha : a ≤ s.size) (hs : s.size ≤ 1000000) (hop : opW (wd ((bs s).drop (nb s a))) = 7) :
    Calls Tryz.prog 33 #[.pointer (some ⟨b, 0, none⟩)] w fun en w' => RChg b s a w en w' := by
  have hlt := h.lt
  have hne : b ≠ w.heap.size := by omega
  obtain ⟨wa, hwa⟩ : ∃ wa, w.alloc (.cells [(.int .i64 0), (.string ⟨#[]⟩), (.string ⟨#[]⟩), (.string ⟨#[]⟩), (.string ⟨#[]⟩), (.int .i64 0), (.int .i64 0), (.bool false), (.int .i64 0), (.int .i64 0), (.string ⟨#[]⟩), (.slice none 0 0)].toArray 28) = wa := ⟨_, rfl⟩
  have hba : Below w.heap.size w wa := by rw [← hwa]; exact (Below.refl _ _).alloc (Nat.le_refl _) _
  have HR0 : Hid (Bk 28 wa w.heap.size [(.int .i64 0), (.string ⟨#[]⟩), (.string ⟨#[]⟩), (.string ⟨#[]⟩), (.string ⟨#[]⟩), (.int .i64 0), (.int .i64 0), (.bool false), (.int .i64 0), (.int .i64 0), (.string ⟨#[]⟩), (.slice none 0 0)]) := by rw [← hwa]; exact Bk.new w _ _
  have hsa : wa.heap.size = w.heap.size + 1 := by rw [← hwa]; simp
  have Hwa := Lib.hid hwa; clear hwa
  have HO0 := Lib.hid (Off.of_below (S := fun k => k = b) hba)
  have HP0 := Lib.hid (h.below hba); clear hba h
  obtain ⟨y, hy⟩ : ∃ y, bs y = wd ((bs s).drop (nb s a)) := ⟨strB _, rfl⟩
  have hle := wd_len (nb_le ha).2
  rw [← hy, bs_length] at hle
  have HB := Lib.hid (rpeek_any b s a 0 y wa HP0.out ha hs hy)
  have Hnb : Hid (nbE s a 0 = nb s a) := rfl
  have HQ : Hid (∀ w, Calls Tryz.prog 61 #[.string y] w fun en w' => en = .returned (.int .i64 7) ∧ Below w.heap.size w w') := fun w => by
    have := rop_any y w
    rw [hy, hop] at this
    exact this
  have HCH : Hid (∀ {n a2 e2 x a' e'}, PTo pName s (nb s a + y.size) 0 n a2 e2 → PTo (pRest 7 n) s a2 e2 x a' e' → PTo pChange s a 0 x a' e') := fun h1 h2 => chg_seq (nb_le ha).2 (nb_drop ha).symm hop (by decide) (by rw [← hy, bs_length]) h1 h2
  have Hle1 := Lib.hid hle
  have w1 : IntKind.i64.wrap (((nb s a : Nat) : Int) + (y.size : Int)) = ((nb s a + y.size : Nat) : Int) := by rw [IntWalk.i64_in _ (by omega)]; rfl
  clear hy hop hle
  go_enter Tryz.func33, Tryz.ntmps33
  go_wp2_with fail
  rw [Hwa.out]
  refine HB.out.mono ?_
  rintro en w1 ⟨rfl, hp, ho⟩
  rw [Hnb.out] at hp
  have HP1 := Lib.hid hp; have HO1 := Lib.hid (HO0.out.trans ho); have HR1 := Lib.hid (HR0.out.off ho (fun h => hne h.symm))
  have hsz : w.heap.size + 1 ≤ w1.heap.size := by rw [← hsa]; exact ho.size
  clear hp ho
  go_wp2_with fail
  refine (HQ.out _).mono ?_
  rintro en w2 ⟨rfl, hb⟩
  have HP2 := Lib.hid (HP1.out.below hb); have HO2 := Lib.hid (HO1.out.then hb); have HR2 := Lib.hid (HR1.out.below hb)
  have hsz2 := hb.size
  clear hb
  obtain ⟨J, hJ⟩ : ∃ J, w2.heap.size = J := ⟨_, rfl⟩
  obtain ⟨w3, hw3⟩ : ∃ w3, w2.alloc (.cells [(.int .i64 7), (.string ⟨#[]⟩), (.string ⟨#[]⟩), (.string ⟨#[]⟩), (.string ⟨#[]⟩), (.int .i64 0), (.int .i64 0), (.bool false), (.int .i64 0), (.int .i64 0), (.string ⟨#[]⟩), (.slice none 0 0)].toArray 28) = w3 := ⟨_, rfl⟩
  have hb3 : Below w2.heap.size w2 w3 := by rw [← hw3]; exact (Below.refl _ _).alloc (Nat.le_refl _) _
  have HJ3 : Hid (Bk 28 w3 J [(.int .i64 7), (.string ⟨#[]⟩), (.string ⟨#[]⟩), (.string ⟨#[]⟩), (.string ⟨#[]⟩), (.int .i64 0), (.int .i64 0), (.bool false), (.int .i64 0), (.int .i64 0), (.string ⟨#[]⟩), (.slice none 0 0)]) := by rw [← hw3, ← hJ]; exact Bk.new w2 _ _
  have HP3 := Lib.hid (HP2.out.below hb3); have HO3 := Lib.hid (HO2.out.then hb3); have HR3 := Lib.hid (HR2.out.below hb3)
  have hrJ : J ≠ w.heap.size := by omega
  have hnJ : b ≠ J := by have := HP2.out.lt; omega
  have hwJ : w.heap.size ≤ J := by omega
  have hJb : J ≠ b := fun e => hnJ e.symm
  have hrb : w.heap.size ≠ b := fun e => hne e.symm
  have HJe := Lib.hid hJ
  have Hw3 := Lib.hid hw3; clear hw3 hb3
  go_upto_region 3 with fail
  rw [Hw3.out]
  try rw [HJe.out]
  obtain ⟨c0, c1, c2⟩ := HP3.out.cells
  have f1 := HP3.out.frozen 1
  have d0 := HJ3.out.at 0 _ rfl
  clear hsz hsz2 hJ hsa
  go_wp2_with fail
  have HP4 := Lib.hid (HP3.out.setA (nb s a + y.size)); have HO4 := Lib.hid (HO3.out.in 1 (.int .i64 ((nb s a + y.size : Nat) : Int))); have HR4 := Lib.hid (HR3.out.put b 1 (.int .i64 ((nb s a + y.size : Nat) : Int)) hne); have HJ4 := Lib.hid (HJ3.out.put b 1 (.int .i64 ((nb s a + y.size : Nat) : Int)) hnJ)
  clear c0 c1 c2 f1 d0
  refine (rname_any b s (nb s a + y.size) 0 _ HP4.out Hle1.out hs).mono ?_
  rintro en w5 ⟨n5, a5, e5, rfl, hp, ho, hto⟩
  have HP5 := Lib.hid hp; have HO5 := Lib.hid (HO4.out.trans ho); have HR5 := Lib.hid (HR4.out.off ho hrb); have HJ5 := Lib.hid (HJ4.out.off ho hJb); have HT5 := Lib.hid hto; have HL5 := Lib.hid hto.1
  clear hp ho hto
  have c1 := HJ5.out.at 1 _ rfl; have q1 := HJ5.out.thaw 1
  have d0 := HJ5.out.at 0 _ rfl
  go_wp2_with fail
  clear d0 c1 q1
  have HJ6 : Hid (Bk 28 _ J [(.int .i64 7), (.string (strB n5)), (.string ⟨#[]⟩), (.string ⟨#[]⟩), (.string ⟨#[]⟩), (.int .i64 0), (.int .i64 0), (.bool false), (.int .i64 0), (.int .i64 0), (.string ⟨#[]⟩), (.slice none 0 0)]) := (HJ5.out.set 1 (.string (strB n5)))
  have HR6 := Lib.hid (HR5.out.put J 1 (.string (strB n5)) hrJ); have HO6 := Lib.hid (HO5.out.put J 1 (.string (strB n5)) hwJ); have HP6 := Lib.hid (HP5.out.put J 1 (.string (strB n5)) hJb)
  refine (rname_any b s a5 e5 _ HP6.out HL5.out hs).mono ?_
  rintro en w7 ⟨n7, a7, e7, rfl, hp, ho, hto⟩
  have HP7 := Lib.hid hp; have HO7 := Lib.hid (HO6.out.trans ho); have HR7 := Lib.hid (HR6.out.off ho hrb); have HJ7 := Lib.hid (HJ6.out.off ho hJb); have HT7 := Lib.hid hto; have HL7 := Lib.hid hto.1
  clear hp ho hto
  have c2 := HJ7.out.at 2 _ rfl; have q2 := HJ7.out.thaw 2
  have d0 := HJ7.out.at 0 _ rfl
  go_wp2_with fail
  clear d0 c2 q2
  have HJ8 : Hid (Bk 28 _ J [(.int .i64 7), (.string (strB n5)), (.string (strB n7)), (.string ⟨#[]⟩), (.string ⟨#[]⟩), (.int .i64 0), (.int .i64 0), (.bool false), (.int .i64 0), (.int .i64 0), (.string ⟨#[]⟩), (.slice none 0 0)]) := (HJ7.out.set 2 (.string (strB n7)))
  have HR8 := Lib.hid (HR7.out.put J 2 (.string (strB n7)) hrJ); have HO8 := Lib.hid (HO7.out.put J 2 (.string (strB n7)) hwJ); have HP8 := Lib.hid (HP7.out.put J 2 (.string (strB n7)) hJb)
  refine (rkind_any b s a7 e7 _ HP8.out HL7.out hs).mono ?_
  rintro en w9 ⟨⟨tk, tm⟩, a9, e9, rfl, hp, ho, hto⟩
  have HP9 := Lib.hid hp; have HO9 := Lib.hid (HO8.out.trans ho); have HR9 := Lib.hid (HR8.out.off ho hrb); have HJ9 := Lib.hid (HJ8.out.off ho hJb); have HT9 := Lib.hid hto; have HL9 := Lib.hid hto.1
  clear hp ho hto
  have d0 := HJ9.out.at 0 _ rfl; have r0 := HR9.out.at 0 _ rfl; have p0 := HR9.out.thaw 0
  have d1 := HJ9.out.at 1 _ rfl; have r1 := HR9.out.at 1 _ rfl; have p1 := HR9.out.thaw 1
  have d2 := HJ9.out.at 2 _ rfl; have r2 := HR9.out.at 2 _ rfl; have p2 := HR9.out.thaw 2
  have d3 := HJ9.out.at 3 _ rfl; have r3 := HR9.out.at 3 _ rfl; have p3 := HR9.out.thaw 3
  have d4 := HJ9.out.at 4 _ rfl; have r4 := HR9.out.at 4 _ rfl; have p4 := HR9.out.thaw 4
  have d5 := HJ9.out.at 5 _ rfl; have r5 := HR9.out.at 5 _ rfl; have p5 := HR9.out.thaw 5
  have d6 := HJ9.out.at 6 _ rfl; have r6 := HR9.out.at 6 _ rfl; have p6 := HR9.out.thaw 6
  have d7 := HJ9.out.at 7 _ rfl; have r7 := HR9.out.at 7 _ rfl; have p7 := HR9.out.thaw 7
  have d8 := HJ9.out.at 8 _ rfl; have r8 := HR9.out.at 8 _ rfl; have p8 := HR9.out.thaw 8
  have d9 := HJ9.out.at 9 _ rfl; have r9 := HR9.out.at 9 _ rfl; have p9 := HR9.out.thaw 9
  have d10 := HJ9.out.at 10 _ rfl; have r10 := HR9.out.at 10 _ rfl; have p10 := HR9.out.thaw 10
  have d11 := HJ9.out.at 11 _ rfl; have r11 := HR9.out.at 11 _ rfl; have p11 := HR9.out.thaw 11
  have q5 := HJ9.out.thaw 5
  have q6 := HJ9.out.thaw 6
  go_wp2_with fail
  refine bodyPost_ret (results_kD rfl _ rfl ((((((((((((((HR9.out.put J 5 (.int .i64 tk) hrJ).put J 6 (.int .i64 tm) hrJ).set 0 (.int .i64 7)).set 1 (.string (strB n5))).set 2 (.string (strB n7))).set 3 (.string ⟨#[]⟩)).set 4 (.string ⟨#[]⟩)).set 5 (.int .i64 tk)).set 6 (.int .i64 tm)).set 7 (.bool false)).set 8 (.int .i64 0)).set 9 (.int .i64 0)).set 10 (.string ⟨#[]⟩)).set 11 (.slice none 0 0))) rfl ?_
  exact ⟨⟨{ dp0 7 n5 with co := strB n7, tk := tk, tm := tm }, none, 0⟩, a9, e9, rfl, fun hp => absurd hp (by simp [dp0]), ((((((((((((((HP9.out.put J 5 (.int .i64 tk) hJb).put J 6 (.int .i64 tm) hJb).put w.heap.size 0 (.int .i64 7) hrb).put w.heap.size 1 (.string (strB n5)) hrb).put w.heap.size 2 (.string (strB n7)) hrb).put w.heap.size 3 (.string ⟨#[]⟩) hrb).put w.heap.size 4 (.string ⟨#[]⟩) hrb).put w.heap.size 5 (.int .i64 tk) hrb).put w.heap.size 6 (.int .i64 tm) hrb).put w.heap.size 7 (.bool false) hrb).put w.heap.size 8 (.int .i64 0) hrb).put w.heap.size 9 (.int .i64 0) hrb).put w.heap.size 10 (.string ⟨#[]⟩) hrb).put w.heap.size 11 (.slice none 0 0) hrb), ((((((((((((((HO9.out.put J 5 (.int .i64 tk) hwJ).put J 6 (.int .i64 tm) hwJ).put w.heap.size 0 (.int .i64 7) (Nat.le_refl _)).put w.heap.size 1 (.string (strB n5)) (Nat.le_refl _)).put w.heap.size 2 (.string (strB n7)) (Nat.le_refl _)).put w.heap.size 3 (.string ⟨#[]⟩) (Nat.le_refl _)).put w.heap.size 4 (.string ⟨#[]⟩) (Nat.le_refl _)).put w.heap.size 5 (.int .i64 tk) (Nat.le_refl _)).put w.heap.size 6 (.int .i64 tm) (Nat.le_refl _)).put w.heap.size 7 (.bool false) (Nat.le_refl _)).put w.heap.size 8 (.int .i64 0) (Nat.le_refl _)).put w.heap.size 9 (.int .i64 0) (Nat.le_refl _)).put w.heap.size 10 (.string ⟨#[]⟩) (Nat.le_refl _)).put w.heap.size 11 (.slice none 0 0) (Nat.le_refl _)), HCH.out HT5.out (rest_7 HT7.out HT9.out), by simp [dp0], fun p hp => by cases hp⟩
end Go.Proofs.YtebldfnocpcddaaGreatDoor

/-
  The document's own parser of changes (layer 10): a change of kind 8.
-/
namespace Go.Proofs.YtebldfnocpcddaaGreatDoor
open Go.RowKit

set_option maxRecDepth 100000 in
set_option maxHeartbeats 12800000 in
theorem rchg8_any (b : Nat) (s : ByteArray) (a : Nat) (w : World) (h : PBx 67 w b s a 0) (ha : a ≤ s.size) (hs : s.size ≤ 1000000) (hop : opW (wd ((bs s).drop (nb s a))) = 8) :
    Calls Tryz.prog 33 #[.pointer (some ⟨b, 0, none⟩)] w fun en w' => RChg b s a w en w' := by
  have hlt := h.lt
  have hne : b ≠ w.heap.size := by omega
  obtain ⟨wa, hwa⟩ : ∃ wa, w.alloc (.cells [(.int .i64 0), (.string ⟨#[]⟩), (.string ⟨#[]⟩), (.string ⟨#[]⟩), (.string ⟨#[]⟩), (.int .i64 0), (.int .i64 0), (.bool false), (.int .i64 0), (.int .i64 0), (.string ⟨#[]⟩), (.slice none 0 0)].toArray 28) = wa := ⟨_, rfl⟩
  have hba : Below w.heap.size w wa := by rw [← hwa]; exact (Below.refl _ _).alloc (Nat.le_refl _) _
  have HR0 : Hid (Bk 28 wa w.heap.size [(.int .i64 0), (.string ⟨#[]⟩), (.string ⟨#[]⟩), (.string ⟨#[]⟩), (.string ⟨#[]⟩), (.int .i64 0), (.int .i64 0), (.bool false), (.int .i64 0), (.int .i64 0), (.string ⟨#[]⟩), (.slice none 0 0)]) := by rw [← hwa]; exact Bk.new w _ _
  have hsa : wa.heap.size = w.heap.size + 1 := by rw [← hwa]; simp
  have Hwa := Lib.hid hwa; clear hwa
  have HO0 := Lib.hid (Off.of_below (S := fun k => k = b) hba)
  have HP0 := Lib.hid (h.below hba); clear hba h
  obtain ⟨y, hy⟩ : ∃ y, bs y = wd ((bs s).drop (nb s a)) := ⟨strB _, rfl⟩
  have hle := wd_len (nb_le ha).2
  rw [← hy, bs_length] at hle
  have HB := Lib.hid (rpeek_any b s a 0 y wa HP0.out ha hs hy)
  have Hnb : Hid (nbE s a 0 = nb s a) := rfl
  have HQ : Hid (∀ w, Calls Tryz.prog 61 #[.string y] w fun en w' => en = .returned (.int .i64 8) ∧ Below w.heap.size w w') := fun w => by
    have := rop_any y w
    rw [hy, hop] at this
    exact this
  have HCH : Hid (∀ {n a2 e2 x a' e'}, PTo pName s (nb s a + y.size) 0 n a2 e2 → PTo (pRest 8 n) s a2 e2 x a' e' → PTo pChange s a 0 x a' e') := fun h1 h2 => chg_seq (nb_le ha).2 (nb_drop ha).symm hop (by decide) (by rw [← hy, bs_length]) h1 h2
  have Hle1 := Lib.hid hle
  have w1 : IntKind.i64.wrap (((nb s a : Nat) : Int) + (y.size : Int)) = ((nb s a + y.size : Nat) : Int) := by rw [IntWalk.i64_in _ (by omega)]; rfl
  clear hy hop hle
  go_enter Tryz.func33, Tryz.ntmps33
  go_wp2_with fail
  rw [Hwa.out]
  refine HB.out.mono ?_
  rintro en w1 ⟨rfl, hp, ho⟩
  rw [Hnb.out] at hp
  have HP1 := Lib.hid hp; have HO1 := Lib.hid (HO0.out.trans ho); have HR1 := Lib.hid (HR0.out.off ho (fun h => hne h.symm))
  have hsz : w.heap.size + 1 ≤ w1.heap.size := by rw [← hsa]; exact ho.size
  clear hp ho
  go_wp2_with fail
  refine (HQ.out _).mono ?_
  rintro en w2 ⟨rfl, hb⟩
  have HP2 := Lib.hid (HP1.out.below hb); have HO2 := Lib.hid (HO1.out.then hb); have HR2 := Lib.hid (HR1.out.below hb)
  have hsz2 := hb.size
  clear hb
  obtain ⟨J, hJ⟩ : ∃ J, w2.heap.size = J := ⟨_, rfl⟩
  obtain ⟨w3, hw3⟩ : ∃ w3, w2.alloc (.cells [(.int .i64 8), (.string ⟨#[]⟩), (.string ⟨#[]⟩), (.string ⟨#[]⟩), (.string ⟨#[]⟩), (.int .i64 0), (.int .i64 0), (.bool false), (.int .i64 0), (.int .i64 0), (.string ⟨#[]⟩), (.slice none 0 0)].toArray 28) = w3 := ⟨_, rfl⟩
  have hb3 : Below w2.heap.size w2 w3 := by rw [← hw3]; exact (Below.refl _ _).alloc (Nat.le_refl _) _
  have HJ3 : Hid (Bk 28 w3 J [(.int .i64 8), (.string ⟨#[]⟩), (.string ⟨#[]⟩), (.string ⟨#[]⟩), (.string ⟨#[]⟩), (.int .i64 0), (.int .i64 0), (.bool false), (.int .i64 0), (.int .i64 0), (.string ⟨#[]⟩), (.slice none 0 0)]) := by rw [← hw3, ← hJ]; exact Bk.new w2 _ _
  have HP3 := Lib.hid (HP2.out.below hb3); have HO3 := Lib.hid (HO2.out.then hb3); have HR3 := Lib.hid (HR2.out.below hb3)
  have hrJ : J ≠ w.heap.size := by omega
  have hnJ : b ≠ J := by have := HP2.out.lt; omega
  have hwJ : w.heap.size ≤ J := by omega
  have hJb : J ≠ b := fun e => hnJ e.symm
  have hrb : w.heap.size ≠ b := fun e => hne e.symm
  have HJe := Lib.hid hJ
  have Hw3 := Lib.hid hw3; clear hw3 hb3
  go_upto_region 3 with fail
  rw [Hw3.out]
  try rw [HJe.out]
  obtain ⟨c0, c1, c2⟩ := HP3.out.cells
  have f1 := HP3.out.frozen 1
  have d0 := HJ3.out.at 0 _ rfl
  clear hsz hsz2 hJ hsa
  go_wp2_with fail
  have HP4 := Lib.hid (HP3.out.setA (nb s a + y.size)); have HO4 := Lib.hid (HO3.out.in 1 (.int .i64 ((nb s a + y.size : Nat) : Int))); have HR4 := Lib.hid (HR3.out.put b 1 (.int .i64 ((nb s a + y.size : Nat) : Int)) hne); have HJ4 := Lib.hid (HJ3.out.put b 1 (.int .i64 ((nb s a + y.size : Nat) : Int)) hnJ)
  clear c0 c1 c2 f1 d0
  refine (rname_any b s (nb s a + y.size) 0 _ HP4.out Hle1.out hs).mono ?_
  rintro en w5 ⟨n5, a5, e5, rfl, hp, ho, hto⟩
  have HP5 := Lib.hid hp; have HO5 := Lib.hid (HO4.out.trans ho); have HR5 := Lib.hid (HR4.out.off ho hrb); have HJ5 := Lib.hid (HJ4.out.off ho hJb); have HT5 := Lib.hid hto; have HL5 := Lib.hid hto.1
  clear hp ho hto
  have c1 := HJ5.out.at 1 _ rfl; have q1 := HJ5.out.thaw 1
  have d0 := HJ5.out.at 0 _ rfl
  go_wp2_with fail
  clear d0 c1 q1
  have HJ6 : Hid (Bk 28 _ J [(.int .i64 8), (.string (strB n5)), (.string ⟨#[]⟩), (.string ⟨#[]⟩), (.string ⟨#[]⟩), (.int .i64 0), (.int .i64 0), (.bool false), (.int .i64 0), (.int .i64 0), (.string ⟨#[]⟩), (.slice none 0 0)]) := (HJ5.out.set 1 (.string (strB n5)))
  have HR6 := Lib.hid (HR5.out.put J 1 (.string (strB n5)) hrJ); have HO6 := Lib.hid (HO5.out.put J 1 (.string (strB n5)) hwJ); have HP6 := Lib.hid (HP5.out.put J 1 (.string (strB n5)) hJb)
  refine (rname_any b s a5 e5 _ HP6.out HL5.out hs).mono ?_
  rintro en w7 ⟨n7, a7, e7, rfl, hp, ho, hto⟩
  have HP7 := Lib.hid hp; have HO7 := Lib.hid (HO6.out.trans ho); have HR7 := Lib.hid (HR6.out.off ho hrb); have HJ7 := Lib.hid (HJ6.out.off ho hJb); have HT7 := Lib.hid hto; have HL7 := Lib.hid hto.1
  clear hp ho hto
  have c2 := HJ7.out.at 2 _ rfl; have q2 := HJ7.out.thaw 2
  have d0 := HJ7.out.at 0 _ rfl
  go_wp2_with fail
  clear d0 c2 q2
  have HJ8 : Hid (Bk 28 _ J [(.int .i64 8), (.string (strB n5)), (.string (strB n7)), (.string ⟨#[]⟩), (.string ⟨#[]⟩), (.int .i64 0), (.int .i64 0), (.bool false), (.int .i64 0), (.int .i64 0), (.string ⟨#[]⟩), (.slice none 0 0)]) := (HJ7.out.set 2 (.string (strB n7)))
  have HR8 := Lib.hid (HR7.out.put J 2 (.string (strB n7)) hrJ); have HO8 := Lib.hid (HO7.out.put J 2 (.string (strB n7)) hwJ); have HP8 := Lib.hid (HP7.out.put J 2 (.string (strB n7)) hJb)
  refine (rvalue_any true b s a7 e7 _ HP8.out HL7.out hs).mono ?_
  rintro en w9 ⟨⟨vk, vn, vt⟩, a9, e9, rfl, hp, ho, hto⟩
  have HP9 := Lib.hid hp; have HO9 := Lib.hid (HO8.out.trans ho); have HR9 := Lib.hid (HR8.out.off ho hrb); have HJ9 := Lib.hid (HJ8.out.off ho hJb); have HT9 := Lib.hid hto; have HL9 := Lib.hid hto.1
  clear hp ho hto
  have d0 := HJ9.out.at 0 _ rfl; have r0 := HR9.out.at 0 _ rfl; have p0 := HR9.out.thaw 0
  have d1 := HJ9.out.at 1 _ rfl; have r1 := HR9.out.at 1 _ rfl; have p1 := HR9.out.thaw 1
  have d2 := HJ9.out.at 2 _ rfl; have r2 := HR9.out.at 2 _ rfl; have p2 := HR9.out.thaw 2
  have d3 := HJ9.out.at 3 _ rfl; have r3 := HR9.out.at 3 _ rfl; have p3 := HR9.out.thaw 3
  have d4 := HJ9.out.at 4 _ rfl; have r4 := HR9.out.at 4 _ rfl; have p4 := HR9.out.thaw 4
  have d5 := HJ9.out.at 5 _ rfl; have r5 := HR9.out.at 5 _ rfl; have p5 := HR9.out.thaw 5
  have d6 := HJ9.out.at 6 _ rfl; have r6 := HR9.out.at 6 _ rfl; have p6 := HR9.out.thaw 6
  have d7 := HJ9.out.at 7 _ rfl; have r7 := HR9.out.at 7 _ rfl; have p7 := HR9.out.thaw 7
  have d8 := HJ9.out.at 8 _ rfl; have r8 := HR9.out.at 8 _ rfl; have p8 := HR9.out.thaw 8
  have d9 := HJ9.out.at 9 _ rfl; have r9 := HR9.out.at 9 _ rfl; have p9 := HR9.out.thaw 9
  have d10 := HJ9.out.at 10 _ rfl; have r10 := HR9.out.at 10 _ rfl; have p10 := HR9.out.thaw 10
  have d11 := HJ9.out.at 11 _ rfl; have r11 := HR9.out.at 11 _ rfl; have p11 := HR9.out.thaw 11
  have q8 := HJ9.out.thaw 8
  have q9 := HJ9.out.thaw 9
  have q10 := HJ9.out.thaw 10
  go_wp2_with fail
  refine bodyPost_ret (results_kD rfl _ rfl (((((((((((((((HR9.out.put J 8 (.int .i64 vk) hrJ).put J 9 (.int .i64 vn) hrJ).put J 10 (.string (strB vt)) hrJ).set 0 (.int .i64 8)).set 1 (.string (strB n5))).set 2 (.string (strB n7))).set 3 (.string ⟨#[]⟩)).set 4 (.string ⟨#[]⟩)).set 5 (.int .i64 0)).set 6 (.int .i64 0)).set 7 (.bool false)).set 8 (.int .i64 vk)).set 9 (.int .i64 vn)).set 10 (.string (strB vt))).set 11 (.slice none 0 0))) rfl ?_
  exact ⟨⟨{ dp0 8 n5 with co := strB n7, dk := vk, dn := vn, ds := strB vt }, none, 0⟩, a9, e9, rfl, fun hp => absurd hp (by simp [dp0]), (((((((((((((((HP9.out.put J 8 (.int .i64 vk) hJb).put J 9 (.int .i64 vn) hJb).put J 10 (.string (strB vt)) hJb).put w.heap.size 0 (.int .i64 8) hrb).put w.heap.size 1 (.string (strB n5)) hrb).put w.heap.size 2 (.string (strB n7)) hrb).put w.heap.size 3 (.string ⟨#[]⟩) hrb).put w.heap.size 4 (.string ⟨#[]⟩) hrb).put w.heap.size 5 (.int .i64 0) hrb).put w.heap.size 6 (.int .i64 0) hrb).put w.heap.size 7 (.bool false) hrb).put w.heap.size 8 (.int .i64 vk) hrb).put w.heap.size 9 (.int .i64 vn) hrb).put w.heap.size 10 (.string (strB vt)) hrb).put w.heap.size 11 (.slice none 0 0) hrb), (((((((((((((((HO9.out.put J 8 (.int .i64 vk) hwJ).put J 9 (.int .i64 vn) hwJ).put J 10 (.string (strB vt)) hwJ).put w.heap.size 0 (.int .i64 8) (Nat.le_refl _)).put w.heap.size 1 (.string (strB n5)) (Nat.le_refl _)).put w.heap.size 2 (.string (strB n7)) (Nat.le_refl _)).put w.heap.size 3 (.string ⟨#[]⟩) (Nat.le_refl _)).put w.heap.size 4 (.string ⟨#[]⟩) (Nat.le_refl _)).put w.heap.size 5 (.int .i64 0) (Nat.le_refl _)).put w.heap.size 6 (.int .i64 0) (Nat.le_refl _)).put w.heap.size 7 (.bool false) (Nat.le_refl _)).put w.heap.size 8 (.int .i64 vk) (Nat.le_refl _)).put w.heap.size 9 (.int .i64 vn) (Nat.le_refl _)).put w.heap.size 10 (.string (strB vt)) (Nat.le_refl _)).put w.heap.size 11 (.slice none 0 0) (Nat.le_refl _)), HCH.out HT5.out (rest_8 HT7.out HT9.out), by simp [dp0], fun p hp => by cases hp⟩
end Go.Proofs.YtebldfnocpcddaaGreatDoor
