/-
  Contract of the document's own All of layer 9: changes one behind the other.
-/
import Derived.Test.YthmjgaekcghonaaGreatDoorDdlRefAppC
import Derived.Deep.RegionLaw
import Derived.IntWalk
import Derived.Test.YthmjgaekcghonaaGreatDoorPart1
import Derived.Test.YthmjgaekcghonaaGreatDoorPart2
import Derived.Test.YthmjgaekcghonaaGreatDoorPart3
import Derived.Test.YthmjgaekcghonaaGreatDoorPart4
import Derived.Test.YthmjgaekcghonaaGreatDoorPart5
import Derived.Test.YthmjgaekcghonaaGreatDoorPart6
import Derived.Test.YthmjgaekcghonaaGreatDoorPart7
import Derived.Test.YthmjgaekcghonaaGreatDoorPart8
import Derived.Test.YthmjgaekcghonaaGreatDoorPart9
import Derived.Test.YthmjgaekcghonaaGreatDoorPart10
import Derived.Test.YthmjgaekcghonaaGreatDoorPart11
namespace Go.Proofs.YthmjgaekcghonaaGreatDoor
open Go.RowKit

set_option maxRecDepth 100000 in
set_option maxHeartbeats 6400000 in
theorem rall9_any (A : Option Addr) (cp : Nat) (l : List Tb) (Al : Option Addr) (cl : Nat) (ds : List Db) (first : Int) (w : World) (hA : TabsAt w w.heap.size A l) (hw : ∀ t ∈ l, WfT t) (hl : l.length ≤ 1000000) (hcp : l.length ≤ cp) (hD : DdlsAt w w.heap.size Al ds) (hd : ∀ d ∈ ds, WfD d.p) (hds : ds.length ≤ 400)
    (hf1 : -9223372036854775808 ≤ first) (hf2 : first ≤ 9223372036854775807) :
    Calls Tryz.prog 14 #[.agg #[.slice A l.length cp], .slice Al ds.length cl, .int .i64 first] w fun e w' => AllEnd (allD (l.map Tb.p) first 0 (ds.map Db.p)) w e w' := by
  obtain ⟨R, hR⟩ : ∃ R, allD (l.map Tb.p) first 0 (ds.map Db.p) = R := ⟨_, rfl⟩
  rw [hR]
  have HR0 : Hid (R = allD (l.map Tb.p) first 0 ((ds.map Db.p).drop 0)) := by show _ = _; rw [List.drop_zero]; exact hR.symm
  clear hR
  obtain ⟨w0, hw0, hb0, hC, hO, hs0⟩ := box_al w (.slice A l.length cp)
  have Hw0 := Lib.hid hw0; clear hw0
  have HbW := Lib.hid hb0
  have HC := Lib.hid hC
  have HO := Lib.hid hO; clear hO hC
  have Hs0 := Lib.hid hs0; clear hs0
  have HDs : Hid (∀ X, Below w.heap.size w X → DdlsAt X X.heap.size Al ds) := fun X hX => hD.to hX
  have Hwd := Lib.hid hd; clear hd
  have HW := Lib.hid hw
  have HLl := Lib.hid hl
  have Hc0 : Hid (CatAt w0 A cp l) := ⟨hA.to hb0, hcp, fun t ht => (hw t ht).2.2.1⟩
  have h400 : decide ((400 : Int) < (ds.length : Int)) = false := by simp; omega
  clear hA hw hl hD hb0 hcp
  go_enter Tryz.func14, Tryz.ntmps14
  go_upto_region 3 with fail
  rw [Hw0.out]
  go_wp2_with fail
  go_loopw [9] (fun i wr => ∃ (n : Nat) (A2 : Option Addr) (k2 : Nat) (l2 : List Tb), n ≤ ds.length ∧ i = .int .i64 n ∧ Hid (l2.length ≤ 1000000) ∧ Hid (CtBox wr w.heap.size (.slice A2 l2.length k2)) ∧ Hid (CatAt wr A2 k2 l2) ∧ Hid (∀ t ∈ l2, WfT t) ∧ Hid (CtBox wr (w.heap.size + 1) (.slice none 0 0)) ∧ Hid (Below w.heap.size w wr) ∧ Hid (R = allD (l2.map Tb.p) first n ((ds.map Db.p).drop n))) (fun i _ => ds.length - (intOf i).toNat)
  case atStart => exact ⟨0, A, cp, l, by omega, rfl, HLl.out, HC.out, Hc0.out, HW.out, HO.out, HbW.out, HR0.out⟩
  case round =>
    clear HC Hc0 HW HO HR0 HLl
    obtain ⟨n, A2, k2, l2, hn, rfl, hl2, hbx, hcat, hwl, HRx, hb, hR⟩ := hrel
    have z0 := HRx.out.cell
    have z1 := HRx.out.frozen
    have y0 := hbx.out.cell
    by_cases hlt : n < ds.length
    · obtain ⟨d, hd⟩ : ∃ d, ds[n]? = some d := ⟨ds[n], by simp [hlt]⟩
      have hD := HDs.out wr hb.out
      obtain ⟨b1, o1, rfl, hbB, d0, d1, d2, d3, d4, d5, d6, d7, d8, d9, d10, d11⟩ := DdlsAt.get hD n d hd
      have Hdm := Lib.hid (List.mem_of_getElem? hd)
      have Hwd1 := Lib.hid (Hwd.out d Hdm.out)
      have HAd := Lib.hid (hD.2 d Hdm.out)
      have hnI : (n : Int) < (ds.length : Int) := by omega
      have hn0 : (0 : Int) ≤ (n : Int) := by omega
      have Hdr := Lib.hid (drop_map hd)
      clear hD hd
      by_cases hbig : 9223372036854775807 - (n : Int) < first
      · have g1 : decide (9223372036854775807 - (n : Int) < first) = true := by simp [hbig]
        have HB := Lib.hid (AllEnd.bad (R := R) (w := w) (w' := wr.setCell ⟨w.heap.size + 1, 0, none⟩ (.slice none 0 0)) (n := n) (E := 2) (by rw [hR.out, Hdr.out]; exact allD_big hbig) (bput hb.out (by omega) 0 _))
        have Hz0 := Lib.hid z0
        clear hbig d0 d1 d2 d3 d4 d5 d6 d7 d8 d9 d10 d11
        go_wp2_with fail
        refine bodyPost_ret (results_c3 rfl _ _ rfl (World.cell?_setCell_same _ _ _ Hz0.out)) rfl ?_
        exact HB.out
      · have g1 : decide (9223372036854775807 - (n : Int) < first) = false := by simp; omega
        have hs1 : first + (n : Int) ≤ 9223372036854775807 := by omega
        have hs2 : -9223372036854775808 ≤ first + (n : Int) := by omega
        have hwr : IntKind.i64.wrap (first + (n : Int)) = first + (n : Int) := IntWalk.i64_in _ (by omega)
        have Hbig := Lib.hid hbig; clear hbig
        have HAp := Lib.hid (fun X (hX : Below wr.heap.size wr X) => rapply_any A2 k2 l2 d (first + (n : Int)) X (hcat.out.to hX).1 hwl.out hl2.out (RowAt.to HAd.out hX) Hwd1.out)
        obtain ⟨E, hE⟩ : ∃ E, applyE (l2.map Tb.p) d.p (first + (n : Int)) = E := ⟨_, rfl⟩
        have HE := Lib.hid hE; clear hE
        have y1 := hbx.out.frozen
        go_upto_region 9 with fail
        go_cut [10] (fun e wx => e = .int .i64 E ∧ ∃ A3 k3 l3, Hid (CtBox wx w.heap.size (.slice A3 (List.length l3) k3)) ∧ Hid (CatAt wx A3 k3 l3) ∧ Hid (l3.map Tb.p = applyO (l2.map Tb.p) d.p (first + (n : Int))) ∧ Hid (Off (fun x => x = w.heap.size) wr wx) ∧ Hid (Below w.heap.size wr wx))
        case first =>
          go_wp2_with fail
          go_region_law (first
            | (go_simp; go_at_call 9; refine (HAp.out _ (by go_grown)).mono ?_; rintro e w5 ⟨A3, k3, l3, rfl, hc3, hp3, hb5⟩; have Hd5 : Hid (Below wr.heap.size wr w5) := bthen (by go_grown) hb5; have Hc3 := Lib.hid hc3; have Hp3 := Lib.hid hp3; have HB5 := Lib.hid (hbx.out.below Hd5.out hbx.out.lt); clear hc3 hp3 hb5 y0 y1 z0 z1; have y0 := HB5.out.cell; have y1 := HB5.out.frozen; rw [HE.out])
            | fail)
          all_goals
            go_wp2_with fail
            go_meet
            exact ⟨rfl, A3, k3, l3, HB5.out.set _, Hc3.out.put HB5.out _, Hp3.out, (Off.of_below Hd5.out).trans (Off.set w5 w.heap.size 0 _), bput (Hd5.out.mono (Nat.le_of_lt hbx.out.lt)) (Nat.le_refl _) 0 _⟩
        case rest =>
          obtain ⟨rfl, A3, k3, l3, Hbx6, Hc6, Hp3, Hof6, Hb6⟩ := hcut
          clear y0 y1 z0 z1 d0 d1 d2 d3 d4 d5 d6 d7 d8 d9 d10 d11 HAp
          have HR6 := Lib.hid (HRx.out.off Hof6.out (by omega))
          have Hbw6 : Hid (Below w.heap.size w wc) := hb.out.trans Hb6.out
          have z0 := HR6.out.cell
          have z1 := HR6.out.frozen
          by_cases h0 : E = 0
          · subst h0
            have H64 := Lib.hid (w64_to hwl.out)
            obtain ⟨hl3, hw3, hcp3⟩ := wf_apply H64.out Hwd1.out Hc6.out Hp3.out
            have Hw3 := Lib.hid hw3; clear hw3
            have HR3 : Hid (R = allD (l3.map Tb.p) first (n + 1) ((ds.map Db.p).drop (n + 1))) := by
              show _ = _
              rw [hR.out, Hdr.out, allD_ok (by have := Hbig.out; omega) HE.out, Hp3.out]
              unfold applyO
              rw [if_pos HE.out]
            clear hcp3 z0 z1
            go_wp2_with fail
            go_roundw
            case rel => exact ⟨n + 1, A3, k3, l3, by omega, by go_num, Nat.le_trans hl3 (by decide), Hbx6.out, Hc6.out, Hw3.out, HR6.out, Hbw6.out, HR3.out⟩
            case measure => simp [intOf]; omega
          · have q1 : (E == 0) = false := by simpa using h0
            have q2 : (E != 0) = true := by simpa using h0
            have HB := Lib.hid (AllEnd.bad (R := R) (w := w) (w' := wc.setCell ⟨w.heap.size + 1, 0, none⟩ (.slice none 0 0)) (n := n) (E := E) (by rw [hR.out, Hdr.out]; exact allD_err (by have := Hbig.out; omega) HE.out h0) (bput Hbw6.out (by omega) 0 _))
            have Hz0 := Lib.hid z0
            clear h0
            go_wp2_with fail
            refine bodyPost_ret (results_c3 rfl _ _ rfl (World.cell?_setCell_same _ _ _ Hz0.out)) rfl ?_
            exact HB.out
    · have hnl : n = ds.length := by omega
      have HB := Lib.hid (AllEnd.good (w := w) (w' := wr.setCell ⟨w.heap.size + 1, 0, none⟩ (.slice A2 l2.length k2)) (N := ds.length) hR.out (List.drop_eq_nil_of_le (by simp; omega)) hnl (hcat.out.put HRx.out _) hl2.out hwl.out (bput hb.out (by omega) 0 _))
      have Hz0 := Lib.hid z0
      clear hnl
      go_wp2_with fail
      refine bodyPost_ret (results_c3 rfl _ _ rfl (World.cell?_setCell_same _ _ _ Hz0.out)) rfl ?_
      exact HB.out
end Go.Proofs.YthmjgaekcghonaaGreatDoor
