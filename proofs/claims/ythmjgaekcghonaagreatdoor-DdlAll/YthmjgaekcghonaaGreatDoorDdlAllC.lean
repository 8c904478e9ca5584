/-
  Contract of All of layer 9: changes one behind the other.
-/
import Derived.Test.YthmjgaekcghonaaGreatDoorPart1
import Derived.Test.YthmjgaekcghonaaGreatDoorPart2
import Derived.Test.YthmjgaekcghonaaGreatDoorPart3
import Derived.Test.YthmjgaekcghonaaGreatDoorPart4
import Derived.Test.YthmjgaekcghonaaGreatDoorPart5
import Derived.Test.YthmjgaekcghonaaGreatDoorPart6
import Derived.Test.YthmjgaekcghonaaGreatDoorPart7
import Derived.Test.YthmjgaekcghonaaGreatDoorPart8
import Derived.Test.YthmjgaekcghonaaGreatDoorPart9
import Derived.Test.YthmjgaekcghonaaGreatDoorPart10
import Derived.Test.YthmjgaekcghonaaGreatDoorPart11
namespace Go.Proofs.YthmjgaekcghonaaGreatDoor
open Go.RowKit

theorem clone9_cat (A : Option Addr) (cp : Nat) (l : List Tb) (w : World) (hA : TabsAt w w.heap.size A l) (hl : l.length ≤ 1000000) (hw : ∀ t ∈ l, t.cols.length ≤ 1000000) :
    Calls Tryz.prog 19 #[.agg #[.slice A l.length cp]] w fun e w' => ∃ A' cap' l', e = .returned (.agg #[.slice A' (List.length l') cap']) ∧ CatAt w' A' cap' l' ∧ l'.map Tb.p = l.map Tb.p ∧ Below w.heap.size w w' :=
  (clone9_any A cp l w hA hl hw).mono fun e w' ⟨A', cap', l', Bc, he, hO, hp, hn, hb⟩ => by
    refine ⟨A', cap', l', by rw [he, hn], ⟨hO.at, ?_, fun t ht => ?_⟩, hp, hb⟩
    · obtain ⟨_, _, e, h1, _, _⟩ := hO.row.form
      injection e with _ e2 e3
      omega
    · obtain ⟨_, _, e, h1, _, _⟩ := (hO.cols t ht).form
      injection e with _ e2 e3
      omega
set_option maxRecDepth 100000 in
set_option maxHeartbeats 6400000 in
theorem all9_any (A : Option Addr) (cp : Nat) (l : List Tb) (Al : Option Addr) (cl : Nat) (ds : List Db) (first : Int) (w : World) (ht : UTab w) (hA : TabsAt w w.heap.size A l) (hw : ∀ t ∈ l, WfT t) (hl : l.length ≤ 1000000) (hD : DdlsAt w w.heap.size Al ds) (hd : ∀ d ∈ ds, WfD d.p) (hds : ds.length ≤ 400)
    (hf1 : -9223372036854775808 ≤ first) (hf2 : first ≤ 9223372036854775807) :
    Calls Tryz.prog 13 #[.agg #[.slice A l.length cp], .slice Al ds.length cl, .int .i64 first] w fun e w' => AllEnd (allD (l.map Tb.p) first 0 (ds.map Db.p)) w e w' := by
  obtain ⟨R, hR⟩ : ∃ R, allD (l.map Tb.p) first 0 (ds.map Db.p) = R := ⟨_, rfl⟩
  rw [hR]
  have HRe := Lib.hid hR; clear hR
  obtain ⟨w0, hw0, hb0, hC, hO, hs0⟩ := box_al w (.slice A l.length cp)
  have Hw0 := Lib.hid hw0; clear hw0
  have HbW := Lib.hid hb0
  have HO := Lib.hid hO; clear hO hC
  have Hs0 := Lib.hid hs0; clear hs0
  have HDs : Hid (∀ X, Below w0.heap.size w0 X → DdlsAt X X.heap.size Al ds) := fun X hX => (hD.to hb0).to hX
  have HT : Hid (∀ X, Below w0.heap.size w0 X → UTab X) := fun X hX => (ht.below hb0 (Nat.le_refl _)).below hX (Nat.le_refl _)
  have Hwd := Lib.hid hd; clear hd
  have HW := Lib.hid hw
  have HLl := Lib.hid hl
  have HCl := Lib.hid (clone9_cat A cp l w0 (hA.to hb0) hl (fun t ht => (hw t ht).2.1))
  have h400 : decide ((400 : Int) < (ds.length : Int)) = false := by simp; omega
  clear ht hA hw hl hD hb0
  go_enter Tryz.func13, Tryz.ntmps13
  go_wp2_with fail
  rw [Hw0.out]
  refine HCl.out.mono ?_
  rintro e w1 ⟨A1, k1, l1, rfl, hc1, hp1, hb1⟩
  have Hb1 := Lib.hid hb1; clear hb1
  have Hp1 := Lib.hid hp1; clear hp1
  have Hc1 := Lib.hid hc1; clear hc1
  clear HCl
  go_wp2_with fail
  obtain ⟨w2, hw2⟩ : ∃ w2, w1.alloc (.cells #[.slice A1 l1.length k1] 24) = w2 := ⟨_, rfl⟩
  have Hbx2 : Hid (CtBox w2 w1.heap.size (.slice A1 l1.length k1)) := by rw [← hw2]; exact heap_alloc_new w1 _
  have Hc2 : Hid (CatAt w2 A1 k1 l1) := by rw [← hw2]; exact Hc1.out.to (below_one w1 _)
  have Hb2 : Hid (Below w0.heap.size w0 w2) := by rw [← hw2]; exact bthen Hb1.out (below_one w1 _)
  rw [hw2]
  clear hw2
  have Hwl : Hid (∀ t ∈ l1, WfT t) := wf_p Hp1.out HW.out Hc1.out.2.2
  have Hl1 : Hid (l1.length ≤ 1000000) := by
    have e := congrArg List.length Hp1.out
    rw [List.length_map, List.length_map] at e
    show _ ≤ _
    have := HLl.out
    omega
  have HR0 : Hid (R = allD (l1.map Tb.p) first 0 ((ds.map Db.p).drop 0)) := by show _ = _; rw [Hp1.out, List.drop_zero]; exact HRe.out.symm
  have Hs1 : Hid (w0.heap.size ≤ w1.heap.size) := Hb1.out.size
  clear Hb1 Hc1 Hp1 HRe HW
  go_loopw [22] (fun i wr => ∃ (n : Nat) (A2 : Option Addr) (k2 : Nat) (l2 : List Tb), n ≤ ds.length ∧ i = .int .i64 n ∧ Hid (l2.length ≤ 1000000) ∧ Hid (CtBox wr w1.heap.size (.slice A2 l2.length k2)) ∧ Hid (CatAt wr A2 k2 l2) ∧ Hid (∀ t ∈ l2, WfT t) ∧ Hid (Below w0.heap.size w0 wr) ∧ Hid (R = allD (l2.map Tb.p) first n ((ds.map Db.p).drop n))) (fun i _ => ds.length - (intOf i).toNat)
  case atStart => exact ⟨0, A1, k1, l1, by omega, rfl, Hl1.out, Hbx2.out, Hc2.out, Hwl.out, Hb2.out, HR0.out⟩
  case round =>
    clear Hbx2 Hc2 Hwl Hb2 HR0 Hl1
    obtain ⟨n, A2, k2, l2, hn, rfl, hl2, hbx, hcat, hwl, hb, hR⟩ := hrel
    have HRx := Lib.hid (HO.out.below hb.out (by have := Hs0.out; omega))
    by_cases hlt : n < ds.length
    · obtain ⟨d, hd⟩ : ∃ d, ds[n]? = some d := ⟨ds[n], by simp [hlt]⟩
      have hD := HDs.out wr hb.out
      obtain ⟨b1, o1, rfl, hbB, d0, d1, d2, d3, d4, d5, d6, d7, d8, d9, d10, d11⟩ := DdlsAt.get hD n d hd
      have Hdm := Lib.hid (List.mem_of_getElem? hd)
      have Hwd1 := Lib.hid (Hwd.out d Hdm.out)
      have HAd := Lib.hid (hD.2 d Hdm.out)
      have hnI : (n : Int) < (ds.length : Int) := by omega
      have hn0 : (0 : Int) ≤ (n : Int) := by omega
      have Hdr := Lib.hid (drop_map hd)
      obtain ⟨v0, hv0, hbv0, hX, hsv0⟩ := box_ddl wr d
      have Hv0 := Lib.hid hv0; clear hv0
      have Hbv0 := Lib.hid (bthen hb.out hbv0)
      have HX := Lib.hid hX; clear hX
      have Hbxv := Lib.hid (hbx.out.below hbv0 hbx.out.lt)
      have HRv := Lib.hid (HRx.out.below hbv0 HRx.out.lt)
      have Hcatv := Lib.hid (hcat.out.to hbv0)
      have Hsv0 := Lib.hid hsv0; clear hsv0
      have HAp := Lib.hid (apply_any A2 k2 l2 d (first + (n : Int)) v0 (HT.out v0 Hbv0.out) Hcatv.out.1 hwl.out hl2.out hcat.out.2.1 (RowAt.to HAd.out hbv0) Hwd1.out)
      obtain ⟨E, hE⟩ : ∃ E, applyE (l2.map Tb.p) d.p (first + (n : Int)) = E := ⟨_, rfl⟩
      rw [hE] at HAp
      have HE := Lib.hid hE; clear hE
      clear hD hd hbv0
      go_upto_region 7 with fail
      rw [Hv0.out]
      clear d0 d1 d2 d3 d4 d5 d6 d7 d8 d9 d10 d11
      have y0 := Hbxv.out.cell
      have z0 := HRv.out.cell
      have z1 := HRv.out.frozen
      obtain ⟨x0, x1, x2, x3, x4, x5, x6, x7, x8, x9, x10, x11⟩ := HX.out.ddl
      by_cases hbig : 9223372036854775807 - (n : Int) < first
      · have g1 : decide (9223372036854775807 - (n : Int) < first) = true := by simp [hbig]
        have HB := Lib.hid (AllEnd.bad (R := R) (w := w) (w' := v0.setCell ⟨w.heap.size + 1, 0, none⟩ (.slice none 0 0)) (n := n) (E := 2) (by rw [hR.out, Hdr.out]; exact allD_big hbig) (bput (bthen HbW.out Hbv0.out) (by omega) 0 _))
        have Hz0 := Lib.hid z0
        clear hbig
        go_wp2_with fail
        refine bodyPost_ret (results_c3 rfl _ _ rfl (World.cell?_setCell_same _ _ _ Hz0.out)) rfl ?_
        exact HB.out
      · have g1 : decide (9223372036854775807 - (n : Int) < first) = false := by simp; omega
        have hs1 : first + (n : Int) ≤ 9223372036854775807 := by omega
        have hs2 : -9223372036854775808 ≤ first + (n : Int) := by omega
        have Hbig := Lib.hid hbig; clear hbig
        go_wp2_with fail
        refine HAp.out.mono ?_
        rintro e w5 ⟨A3, k3, l3, rfl, hc3, hp3, hb5⟩
        have Hc3 := Lib.hid hc3; clear hc3
        have Hp3 := Lib.hid hp3; clear hp3
        go_upto_region 10 with fail
        obtain ⟨w6, hw6⟩ : ∃ w6, w5.alloc (.cells #[.slice A3 l3.length k3] 24) = w6 := ⟨_, rfl⟩
        have hb6 : Below v0.heap.size v0 w6 := by rw [← hw6]; exact bthen hb5 (below_one w5 _)
        have Hb6 := Lib.hid (bthen Hbv0.out hb6)
        have Hbx6 := Lib.hid (Hbxv.out.below hb6 Hbxv.out.lt)
        have HR6 := Lib.hid (HRv.out.below hb6 HRv.out.lt)
        have Hc6 : Hid (CatAt w6 A3 k3 l3) := by rw [← hw6]; exact Hc3.out.to (below_one w5 _)
        have u0 : w6.cell? ⟨w5.heap.size, 0, none⟩ = some (.slice A3 l3.length k3) := by rw [← hw6]; exact CtBox.cell (heap_alloc_new w5 _)
        rw [hw6]
        clear hw6 hb6 hb5 y0 z0 z1 x0 x1 x2 x3 x4 x5 x6 x7 x8 x9 x10 x11 HAp
        have y0 := Hbx6.out.cell
        have y1 := Hbx6.out.frozen
        have z0 := HR6.out.cell
        have z1 := HR6.out.frozen
        by_cases h0 : E = 0
        · subst h0
          have H64 := Lib.hid (w64_to hwl.out)
          obtain ⟨hl3, hw3, hcp3⟩ := wf_apply H64.out Hwd1.out Hc3.out Hp3.out
          have Hw3 := Lib.hid hw3; clear hw3
          have HR3 : Hid (R = allD (l3.map Tb.p) first (n + 1) ((ds.map Db.p).drop (n + 1))) := by
            show _ = _
            rw [hR.out, Hdr.out, allD_ok (by have := Hbig.out; omega) HE.out, Hp3.out]
            unfold applyO
            rw [if_pos HE.out]
          have HbE := Lib.hid (bput Hb6.out Hs1.out 0 (.slice A3 l3.length k3))
          have HbxE := Lib.hid (Hbx6.out.set (.slice A3 l3.length k3))
          have HcE := Lib.hid (Hc6.out.put Hbx6.out (.slice A3 l3.length k3))
          clear hcp3 z0 z1
          go_wp2_with fail
          go_roundw
          case rel => exact ⟨n + 1, A3, k3, l3, by omega, by go_num, Nat.le_trans hl3 (by decide), HbxE.out, HcE.out, Hw3.out, HbE.out, HR3.out⟩
          case measure => simp [intOf]; omega
        · have q1 : (E == 0) = false := by simpa using h0
          have q2 : (E != 0) = true := by simpa using h0
          have HB := Lib.hid (AllEnd.bad (R := R) (w := w) (w' := w6.setCell ⟨w.heap.size + 1, 0, none⟩ (.slice none 0 0)) (n := n) (E := E) (by rw [hR.out, Hdr.out]; exact allD_err (by have := Hbig.out; omega) HE.out h0) (bput (bthen HbW.out Hb6.out) (by omega) 0 _))
          have Hz0 := Lib.hid z0
          clear h0
          go_wp2_with fail
          refine bodyPost_ret (results_c3 rfl _ _ rfl (World.cell?_setCell_same _ _ _ Hz0.out)) rfl ?_
          exact HB.out
    · have hnl : n = ds.length := by omega
      have HB := Lib.hid (AllEnd.good (w := w) (w' := wr.setCell ⟨w.heap.size + 1, 0, none⟩ (.slice A2 l2.length k2)) (N := ds.length) hR.out (List.drop_eq_nil_of_le (by simp; omega)) hnl (hcat.out.put HRx.out _) hl2.out hwl.out (bput (bthen HbW.out hb.out) (by omega) 0 _))
      have y0 := hbx.out.cell
      have z0 := HRx.out.cell
      have z1 := HRx.out.frozen
      have Hz0 := Lib.hid z0
      clear hnl
      go_wp2_with fail
      refine bodyPost_ret (results_c3 rfl _ _ rfl (World.cell?_setCell_same _ _ _ Hz0.out)) rfl ?_
      exact HB.out
end Go.Proofs.YthmjgaekcghonaaGreatDoor
