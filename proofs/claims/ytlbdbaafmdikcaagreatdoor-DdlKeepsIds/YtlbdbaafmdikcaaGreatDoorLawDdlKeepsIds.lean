/-
  DdlKeepsIds: for every catalog and every list of changes the law returns true: without the document's answer: along any changes a table's Next never falls, a number below it that no column has is no column's again, and only being called otherwise gives a column another name. No condition but that the two tables of package utf read as the program's text lays them (tied by the card).
-/
import Derived.Test.YtlbdbaafmdikcaaGreatDoorTie
import Derived.Test.YtlbdbaafmdikcaaGreatDoorCards
import Derived.ProofKit
import Derived.OpenShut
import Derived.ShutString
import Derived.ChangeOld
import Derived.LaidMore
import Derived.SevenTiedAt
import Derived.Deep.CutBlock
import Derived.Deep.DeepCutAuto
import Derived.Deep.RegionHeld3
import Derived.IntWalk
import Derived.Test.YtlbdbaafmdikcaaGreatDoorPart1
import Derived.Test.YtlbdbaafmdikcaaGreatDoorPart2
import Derived.Test.YtlbdbaafmdikcaaGreatDoorPart3
import Derived.Test.YtlbdbaafmdikcaaGreatDoorPart4
import Derived.Test.YtlbdbaafmdikcaaGreatDoorPart5
namespace Go.Proofs.YtlbdbaafmdikcaaGreatDoor.ddlKeepsIds
open Go.ChangeShapes Go.WideShapes Go.ChangeAt Go.RowKit
open Go.ChangeMaps (open_string shut_string)

theorem bcell {W w1 : World} (hb : Below W.heap.size W w1) : (∀ b o, b < W.heap.size → w1.cell? ⟨b, o, none⟩ = W.cell? ⟨b, o, none⟩) ∧ (∀ b o, b < W.heap.size → w1.frozen? ⟨b, o, none⟩ = W.frozen? ⟨b, o, none⟩) :=
  ⟨fun b o h => hb.cell (p := ⟨b, o, none⟩) h, fun b o h => hb.frozen (p := ⟨b, o, none⟩) h⟩
/-- the catalog's box -/
def CBox (w : World) (b : Nat) (v : Value) : Prop := w.heap[b]? = some (.cells #[v] 37 (0, 0))
theorem CBox.cell {w : World} {b : Nat} {v : Value} (h : CBox w b v) : w.cell? ⟨b, 0, none⟩ = some v := by rw [cell_of_row w b 0 _ _ (0, 0) h]; rfl
theorem CBox.frozen {w : World} {b : Nat} {v : Value} (h : CBox w b v) : w.frozen? ⟨b, 0, none⟩ = false := frozen_of_row w b 0 _ _ h
theorem CBox.lt {w : World} {b : Nat} {v : Value} (h : CBox w b v) : b < w.heap.size := (Array.getElem?_eq_some_iff.1 h).1
theorem CBox.below {w w' : World} {b : Nat} {v : Value} (h : CBox w b v) (hb : Below w.heap.size w w') : CBox w' b v := (hb.block b h.lt).trans h
theorem CBox.set {w : World} {b : Nat} {v : Value} (h : CBox w b v) (u : Value) : CBox (w.setCell ⟨b, 0, none⟩ u) b u := by
  have := heap_setCell_same w b 0 #[v] 37 u h
  show (w.setCell ⟨b, 0, none⟩ u).heap[b]? = _
  simpa using this
set_option maxRecDepth 100000 in
set_option maxHeartbeats 12800000 in
theorem walk_t (A : Option Addr) (cap : Nat) (l : List Tb) (Al : Option Addr) (cl : Nat) (ds : List Db) (w : World) (hc : TabsIn w A cap l) (hd : DdlsIn w Al cl ds) (hs : ∀ d ∈ ds, SmD d.p) (ht : UTab w) :
    Calls Tryz.prog 4 #[.agg #[.slice A l.length cap], .slice Al ds.length cl] w fun e w' => e = .returned (.bool true) ∧ Below w.heap.size w w' := by
  obtain ⟨w0, hw0, hb0, hC, hs0⟩ := box_one w (.slice A l.length cap) 37
  have hbx : CBox w0 w.heap.size (.slice A l.length cap) := by rw [← hw0]; exact heap_alloc_new w _
  have Hbx := Lib.hid hbx; clear hbx
  have Hw0 := Lib.hid hw0; clear hw0
  have HbW := Lib.hid hb0
  have HC := Lib.hid hC; clear hC
  have Hs0 := Lib.hid hs0; clear hs0
  have HL := Lib.hid (hc.2.2.1.to hb0)
  have HDs : Hid (∀ X, Below w.heap.size w X → DdlsAt X X.heap.size Al ds) := fun X hX => hd.2.2.1.to hX
  have HT : Hid (∀ X, Below w.heap.size w X → UTab X) := fun X hX => ht.below hX (Nat.le_refl _)
  have HI := Lib.hid hd.2.2.2
  have HLv := Lib.hid (lives9_any w0 (HT.out _ hb0))
  have HFc := Lib.hid (fun w' h => fewcat_any A cap l w' h hc.1 (fun t ht => (hc.2.2.2 t ht).2.2.2.2.1))
  have HFd := Lib.hid (fun w' h => fewl9_any Al cl ds w' h hd.1 (fun d hdm => ⟨(hd.2.2.2 d hdm).2.2.2.2.2.2.2.2.2.2.1, hs d hdm⟩))
  have HWc : Hid (fewCat l = true → l.length ≤ 10 ∧ ∀ t ∈ l, WfT t) := fun hf => by
    unfold fewCat at hf
    simp only [Bool.and_eq_true, decide_eq_true_eq, List.all_eq_true] at hf
    exact ⟨by omega, fun t ht => WfT_of (hf.2 t ht) (hc.2.2.2 t ht)⟩
  have HWd : Hid (fewL ds = true → ds.length ≤ 20 ∧ ∀ d ∈ ds, WfD d.p) := fun hf => by
    unfold fewL at hf
    simp only [Bool.and_eq_true, decide_eq_true_eq, List.all_eq_true] at hf
    exact ⟨by omega, fun d hdm => WfD_of (hf.2 d hdm) (hd.2.2.2 d hdm)⟩
  have Hcap := Lib.hid hc.2.1
  have Hcc := Lib.hid (fun t (ht : t ∈ l) => (hc.2.2.2 t ht).2.2.2.2.2.1)
  clear hc hd hs ht hb0
  go_enter Tryz.func4, Tryz.ntmps4
  go_wp2_with fail
  try rw [Hw0.out]
  refine (HLv.out).mono ?_
  rintro e w1 ⟨rfl, hb⟩
  have Hb1 := Lib.hid hb
  clear hb
  try clear c0
  have c0 := (HC.out.below Hb1.out (by have := Hs0.out; omega)).one
  go_wp2_with fail
  refine (HFc.out w1 (HL.out.to Hb1.out)).mono ?_
  rintro e w2 ⟨rfl, hb⟩
  have Hb2 := Lib.hid (bthen Hb1.out hb)
  clear hb
  try clear c0
  have c0 := (HC.out.below Hb2.out (by have := Hs0.out; omega)).one
  cases hfc : fewCat l
  · go_wp2_with fail
    go_ret
    exact ⟨by rw []; rfl, bthen HbW.out Hb2.out⟩
  go_wp2_with fail
  refine (HFd.out w2 (HDs.out _ (bthen HbW.out Hb2.out))).mono ?_
  rintro e w3 ⟨rfl, hb⟩
  have Hb3 := Lib.hid (bthen Hb2.out hb)
  clear hb
  try clear c0
  have c0 := (HC.out.below Hb3.out (by have := Hs0.out; omega)).one
  cases hfd : fewL ds
  · go_wp2_with fail
    go_ret
    exact ⟨by rw []; rfl, bthen HbW.out Hb3.out⟩
  have Hwc := Lib.hid (HWc.out hfc)
  have Hwd := Lib.hid (HWd.out hfd)
  clear hfc hfd HWc HWd HFc HFd HLv
  go_wp2_with fail
  refine (rrcat_any A cap l w3 (HL.out.to Hb3.out) Hwc.out.2 (by have := Hwc.out.1; omega)).mono ?_
  rintro e w4 ⟨rfl, hb⟩
  have Hb4 := Lib.hid (bthen Hb3.out hb)
  clear hb
  try clear c0
  have c0 := (HC.out.below Hb4.out (by have := Hs0.out; omega)).one
  cases hr : rightCat l
  · go_wp2_with fail
    go_ret
    exact ⟨by rw []; rfl, bthen HbW.out Hb4.out⟩
  have HR := Lib.hid ((rightL_iff l).1 hr)
  clear hr
  go_wp2_with fail
  have HCat : Hid (CatAt w4 A cap l) := ⟨HL.out.to Hb4.out, Hcap.out, Hcc.out⟩
  have Hbx4 := Lib.hid (Hbx.out.below Hb4.out)
  have HW4 := Lib.hid (bthen HbW.out Hb4.out)
  have Hwl := Lib.hid Hwc.out.2
  have hl10 := Hwc.out.1
  clear c0 Hb1 Hb2 Hb3 Hcap Hcc Hbx HL HC Hwc HI
  go_loopw [5] (fun i wr => ∃ (n : Nat) (A1 : Option Addr) (k1 : Nat) (l1 : List Tb), n ≤ ds.length ∧ i = .int .i64 n ∧ l1.length ≤ 10 ∧ Hid (CBox wr w.heap.size (.slice A1 l1.length k1)) ∧ Hid (CatAt wr A1 k1 l1) ∧ Hid (RightL (l1.map Tb.p)) ∧ Hid (∀ t ∈ l1, WfT t) ∧ Hid (Below w.heap.size w wr)) (fun i _ => ds.length - (intOf i).toNat)
  case atStart => exact ⟨0, A, cap, l, by omega, rfl, hl10, Hbx4.out, HCat.out, HR.out, Hwl.out, HW4.out⟩
  case round =>
    clear HCat Hbx4 HW4 Hwl hl10 HR Hb4
    obtain ⟨n, A1, k1, l1, hn, rfl, hl1, hbx, hcat, hR, hwl, hb⟩ := hrel
    by_cases hlt : n < ds.length
    · obtain ⟨d, hd⟩ : ∃ d, ds[n]? = some d := ⟨ds[n], by simp [hlt]⟩
      have hD := HDs.out wr hb.out
      obtain ⟨b1, o1, rfl, hbB, d0, d1, d2, d3, d4, d5, d6, d7, d8, d9, d10, d11⟩ := DdlsAt.get hD n d hd
      have Hdm := Lib.hid (List.mem_of_getElem? hd)
      have Hd := Lib.hid hd
      have Hwd1 := Lib.hid (Hwd.out.2 d Hdm.out)
      have HAp := Lib.hid (fun X (hX : Below wr.heap.size wr X) => apply_any A1 k1 l1 d (1000000 + (n : Int)) X (HT.out X (hb.out.trans (hX.mono hb.out.size))) (hcat.out.1.to hX) hwl.out (by omega) hcat.out.2.1 (RowAt.to (hD.2 d Hdm.out) hX) Hwd1.out)
      clear hD hd
      have hn20 : n ≤ 20 := by have := Hwd.out.1; omega
      have g0 := hbx.out.cell
      obtain ⟨E, hE⟩ : ∃ E, applyE (l1.map Tb.p) d.p (1000000 + (n : Int)) = E := ⟨_, rfl⟩
      rw [hE] at HAp
      have HE := Lib.hid hE; clear hE
      have hnI : (n : Int) < (ds.length : Int) := by omega
      have hn0 : (0 : Int) ≤ (n : Int) := by omega
      go_upto_region 8 with fail
      go_cut [6, 7] (fun u e wx => ∃ bn A2 k2 l2, u = .pointer (some ⟨bn, 0, none⟩) ∧ e = .int .i64 E ∧ wr.heap.size ≤ bn ∧ wx.cell? ⟨bn, 0, none⟩ = some (.slice A2 (List.length l2) k2) ∧ Hid (CatAt wx A2 k2 l2) ∧ Hid (l2.map Tb.p = applyO (l1.map Tb.p) d.p (1000000 + (n : Int))) ∧ Hid (Below wr.heap.size wr wx))
      case first =>
        have en1 : wr.heap.size ≠ w.heap.size := World.new_ne wr _ g0
        have en2 : wr.heap.size ≠ b1 := World.new_ne wr _ d0
        have en3 : w.heap.size ≠ wr.heap.size := fun e => en1 e.symm
        have en4 : b1 ≠ wr.heap.size := fun e => en2 e.symm
        have hwr : IntKind.i64.wrap (1000000 + (n : Int)) = 1000000 + (n : Int) := IntWalk.i64_in _ (by omega)
        go_region_held3 (fun w' => w'.cell? ⟨w.heap.size, 0, none⟩ = some (.slice A1 l1.length k1) ∧ w'.cell? ⟨b1, o1 + n * 12, none⟩ = some (.int .i64 d.p.op) ∧ w'.cell? ⟨b1, o1 + n * 12 + 1, none⟩ = some (.string d.p.tb) ∧ w'.cell? ⟨b1, o1 + n * 12 + 2, none⟩ = some (.string d.p.co) ∧ w'.cell? ⟨b1, o1 + n * 12 + 3, none⟩ = some (.string d.p.to) ∧ w'.cell? ⟨b1, o1 + n * 12 + 4, none⟩ = some (.string d.p.key) ∧ w'.cell? ⟨b1, o1 + n * 12 + 5, none⟩ = some (.int .i64 d.p.tk) ∧ w'.cell? ⟨b1, o1 + n * 12 + 6, none⟩ = some (.int .i64 d.p.tm) ∧ w'.cell? ⟨b1, o1 + n * 12 + 7, none⟩ = some (.bool d.p.nl) ∧ w'.cell? ⟨b1, o1 + n * 12 + 8, none⟩ = some (.int .i64 d.p.dk) ∧ w'.cell? ⟨b1, o1 + n * 12 + 9, none⟩ = some (.int .i64 d.p.dn) ∧ w'.cell? ⟨b1, o1 + n * 12 + 10, none⟩ = some (.string d.p.ds) ∧ w'.cell? ⟨b1, o1 + n * 12 + 11, none⟩ = some (.slice d.A d.p.cols.length d.cap))
          (first | exact ⟨g0, d0, d1, d2, d3, d4, d5, d6, d7, d8, d9, d10, d11⟩ | go_keep)
          (first
            | (go_at_call 18; refine (HAp.out _ (by go_grown)).mono ?_; rintro e w5 ⟨A2, k2, l2, rfl, hc2, hp2, hb2⟩; have Hd5 : Hid (Below wr.heap.size wr w5) := bthen (by go_grown) hb2; have Hc2 := Lib.hid hc2; have Hp2 := Lib.hid hp2; have Hx := Lib.hid hb2; obtain ⟨hc5, hf5⟩ := bcell hb2; clear hb2 hc2 hp2; have g0 := (Hd5.out.cell (World.block_lt_of_cell? _ _ g0)).trans g0; have d0 := (Hd5.out.cell (World.block_lt_of_cell? _ _ d0)).trans d0; have d1 := (Hd5.out.cell (World.block_lt_of_cell? _ _ d1)).trans d1; have d2 := (Hd5.out.cell (World.block_lt_of_cell? _ _ d2)).trans d2; have d3 := (Hd5.out.cell (World.block_lt_of_cell? _ _ d3)).trans d3; have d4 := (Hd5.out.cell (World.block_lt_of_cell? _ _ d4)).trans d4; have d5 := (Hd5.out.cell (World.block_lt_of_cell? _ _ d5)).trans d5; have d6 := (Hd5.out.cell (World.block_lt_of_cell? _ _ d6)).trans d6; have d7 := (Hd5.out.cell (World.block_lt_of_cell? _ _ d7)).trans d7; have d8 := (Hd5.out.cell (World.block_lt_of_cell? _ _ d8)).trans d8; have d9 := (Hd5.out.cell (World.block_lt_of_cell? _ _ d9)).trans d9; have d10 := (Hd5.out.cell (World.block_lt_of_cell? _ _ d10)).trans d10; have d11 := (Hd5.out.cell (World.block_lt_of_cell? _ _ d11)).trans d11; have em1 : w5.heap.size ≠ w.heap.size := World.new_ne w5 _ g0; have em2 : w5.heap.size ≠ b1 := World.new_ne w5 _ d0; have em3 : w.heap.size ≠ w5.heap.size := fun e => em1 e.symm; have em4 : b1 ≠ w5.heap.size := fun e => em2 e.symm))
        · go_wp2_with fail
          go_meet
          exact ⟨w5.heap.size, A2, k2, l2, rfl, rfl, Hd5.out.size, by simp, ⟨Hc2.out.1.to (below_one w5 _), Hc2.out.2⟩, Hp2.out, bthen Hd5.out (below_one w5 _)⟩
        · go_wp2_with fail
          go_meet
          have hblk : w5.heap[wr.heap.size]? = some (.cells #[.slice none 0 0] 37 (0, 0)) := (Hx.out.block wr.heap.size (by simp)).trans (heap_alloc_new wr.drew _)
          exact ⟨wr.heap.size, A2, k2, l2, rfl, rfl, Nat.le_refl _, World.cell?_setCell_same _ _ _ (CBox.cell hblk), Hc2.out.put hblk _, Hp2.out, bput Hd5.out (Nat.le_refl _) 0 _⟩
      case rest =>
        obtain ⟨bn, A2, k2, l2, rfl, rfl, hbn, u0, hc2, hp2, hbx2⟩ := hcut
        clear g0 d0 d1 d2 d3 d4 d5 d6 d7 d8 d9 d10 d11 HAp
        have Hbw := Lib.hid (hb.out.trans (hbx2.out.mono hb.out.size))
        have Hbxc := Lib.hid (hbx.out.below hbx2.out)
        have Hcat := Lib.hid (show CatAt wc A1 k1 l1 from ⟨hcat.out.1.to hbx2.out, hcat.out.2⟩)
        by_cases h1 : E = 0
        case neg =>
          have q1 : (E == 0) = false := by simpa using h1
          have q2 : (E != 0) = true := by simpa using h1
          clear h1
          go_wp2_with fail
          go_roundw
          case rel => exact ⟨n + 1, A1, k1, l1, by omega, by go_num, hl1, Hbxc.out, Hcat.out, hR.out, hwl.out, Hbw.out⟩
          case measure => simp [intOf]; omega
        subst h1
        have U0 := Lib.hid u0; clear u0
        have Hbn := Lib.hid hbn; clear hbn
        have H64 := Lib.hid (w64_to hwl.out)
        obtain ⟨hl2, hw2, hcp2⟩ := wf_apply H64.out Hwd1.out hc2.out hp2.out
        have Hw2 := Lib.hid hw2; clear hw2
        have HR2 := Lib.hid ((rightL_iff l2).1 (right_of_apply H64.out hp2.out HE.out))
        have HL2 : Hid (l2.map Tb.p = applyR (l1.map Tb.p) d.p (1000000 + (n : Int))) := by show _ = _; rw [hp2.out]; unfold applyO; rw [if_pos HE.out]
        have hlc : w.heap.size < wc.heap.size := Hbxc.out.lt
        have Hlc := Lib.hid hlc; clear hlc
        have Hlbn : Hid (bn < wc.heap.size) := World.block_lt_of_cell? wc _ U0.out
        go_wp2_with fail
        go_loopw [8] (fun i wq => ∃ q : Nat, q ≤ l1.length ∧ i = .int .i64 q ∧ Hid (Below wc.heap.size wc wq)) (fun i _ => l1.length - (intOf i).toNat)
        case atStart => exact ⟨0, by omega, rfl, Below.refl _ _⟩
        case round =>
          obtain ⟨q, hq, rfl, hbq⟩ := hrel
          have g0 : wr.cell? ⟨w.heap.size, 0, none⟩ = some (.slice A1 l1.length k1) := (Hbxc.out.below hbq.out).cell
          by_cases hlq : q < l1.length
          · obtain ⟨t, ht⟩ : ∃ t, l1[q]? = some t := ⟨l1[q], by simp [hlq]⟩
            have Htm := Lib.hid (List.mem_of_getElem? ht)
            obtain ⟨b3, off, hAe, hbB3, d0, d1, d2, d3, d4⟩ := (Hcat.out.1.to hbq.out).get q t ht
            rw [hAe] at g0
            clear hAe ht
            obtain ⟨v0, hv0, hbv0, hT, hsv0⟩ := box_tab wr t
            have Hv0 := Lib.hid hv0; clear hv0
            have Hbv0 := Lib.hid (bthen hbq.out hbv0); clear hbv0
            have Hsv0 := Lib.hid hsv0; clear hsv0
            have HTt := Lib.hid hT; clear hT
            have hRt := hR.out.2.1 t.p (List.mem_map.2 ⟨t, Htm.out, rfl⟩)
            have HRt := Lib.hid hRt; clear hRt
            go_wp2_with fail
            rw [Hv0.out]
            clear g0 d0 d1 d2 d3 d4
            go_loopw [10, 11, 12] (fun u o i wz => ∃ (m a : Nat) (b : Bool), m ≤ l2.length ∧ i = .int .i64 m ∧ u = .int .i64 a ∧ o = .bool b ∧ Hid (b = false ∨ (b = true ∧ ∃ y, l2[a]? = some y ∧ y.id = t.id)) ∧ Hid (Below v0.heap.size v0 wz)) (fun _ _ i _ => l2.length - (intOf i).toNat)
            case atStart => exact ⟨0, 0, false, by omega, rfl, rfl, rfl, .inl rfl, Below.refl _ _⟩
            case round =>
              obtain ⟨m, a, bo, hm, rfl, rfl, rfl, hst, hbz⟩ := hrel
              have Hbz := Lib.hid (bthen Hbv0.out hbz.out)
              have e0 : wr.cell? ⟨bn, 0, none⟩ = some (.slice A2 l2.length k2) := (Hbz.out.cell (p := ⟨bn, 0, none⟩) Hlbn.out).trans U0.out
              obtain ⟨t0, t1, t2, t3, t4⟩ := (HTt.out.below hbz.out (by have := Hsv0.out; omega)).tab
              by_cases hlm : m < l2.length
              · obtain ⟨y, hy⟩ : ∃ y, l2[m]? = some y := ⟨l2[m], by simp [hlm]⟩
                have Hy := Lib.hid hy
                obtain ⟨b2, off2, hAe, hbB2, f0, f1, f2, f3, f4⟩ := (hc2.out.1.to Hbz.out).get m y hy
                rw [hAe] at e0
                clear hAe hy
                cases he : (y.id == t.id)
                · go_wp2_with fail
                  go_quiet (fail)
                  go_wp2_with fail
                  go_roundw
                  case rel => exact ⟨m + 1, a, bo, by omega, by go_num, rfl, rfl, hst.out, bthen hbz.out (((Drew.refl _).more _).below _)⟩
                  case measure => simp [intOf]; omega
                · have Heq : Hid (y.id = t.id) := beq_iff_eq.1 he
                  go_wp2_with fail
                  go_quiet (fail)
                  go_wp2_with fail
                  go_roundw
                  case rel => exact ⟨m + 1, m, true, by omega, by go_num, rfl, rfl, .inr ⟨rfl, y, Hy.out, Heq.out⟩, bthen hbz.out (((Drew.refl _).more _).below _)⟩
                  case measure => simp [intOf]; omega
              · rcases hst.out with rfl | ⟨rfl, u, hu, hid⟩
                · clear hst
                  go_wp2_with fail
                  go_roundw
                  case rel => exact ⟨q + 1, by omega, by go_num, Hbz.out⟩
                  case measure => simp [intOf]; omega
                · have Hu := Lib.hid hu
                  have Hum := Lib.hid (List.mem_of_getElem? hu)
                  have Hid2 := Lib.hid hid
                  obtain ⟨b2, off2, hAe, hbB2, f0, f1, f2, f3, f4⟩ := (hc2.out.1.to Hbz.out).get a u hu
                  have hal := (List.getElem?_eq_some_iff.1 hu).1
                  rw [hAe] at e0
                  have htp : t.p ∈ l1.map Tb.p := List.mem_map.2 ⟨t, Htm.out, rfl⟩
                  have hup : u.p ∈ applyR (l1.map Tb.p) d.p (1000000 + (n : Int)) := by rw [← HL2.out]; exact List.mem_map.2 ⟨u, Hum.out, rfl⟩
                  obtain ⟨hnx, hky⟩ := keeps_tab HE.out htp hup hid
                  have HKc := Lib.hid (fun id (h1 : id < t.nx) (h2 : (colN u id).isSome = true) => keeps_col HE.out hR.out htp hup hid h1 h2)
                  obtain ⟨v1, hv1, hbv1, hU, hsv1⟩ := box_tab wr u
                  have Hv1 := Lib.hid hv1; clear hv1
                  have Hbv1' := Lib.hid hbv1
                  have Hbv1 := Lib.hid (bthen Hbz.out hbv1); clear hbv1
                  have Hsv1 := Lib.hid hsv1; clear hsv1
                  have HUu := Lib.hid hU; clear hU
                  have hn1 : decide (u.nx < t.nx) = false := by simp; omega
                  have hk1 : (u.key == t.key) = true := by rw [hky]; simp
                  have hk2 : (u.key != t.key) = false := by rw [hky]; simp
                  have kt0 := fun o => keep_alloc t0 o
                  have kt2 := fun o => keep_alloc t2 o
                  have kt3 := fun o => keep_alloc t3 o
                  clear hAe hst hu hid htp hup hnx hky
                  have hnx2 := HRt.out.2.2.1
                  have hnx200 : t.nx ≤ 200 := hnx2
                  clear hnx2
                  go_wp2_with fail
                  rw [Hv1.out]
                  clear kt0 kt2 kt3 t0 t1 t2 t3 t4 e0 f0 f1 f2 f3 f4 hn1 hk1 hk2
                  have Hsz1 : Hid (wr.heap.size < v1.heap.size) := by show _ < _; have := Hsv1.out; omega
                  have Hsz0 := Lib.hid (show v0.heap.size ≤ wr.heap.size from hbz.out.size)
                  go_loopw [14] (fun i wy => ∃ N : Nat, N ≤ 200 ∧ i = .int .i64 N ∧ Hid (Below v1.heap.size v1 wy)) (fun i _ => 200 - (intOf i).toNat)
                  case atStart => exact ⟨0, by omega, rfl, Below.refl _ _⟩
                  case round =>
                    obtain ⟨N, hN, rfl, hby⟩ := hrel
                    have Hby := Lib.hid (bthen Hbv1.out hby.out)
                    have Hty := Lib.hid ((HTt.out.below (bthen (hbz.out) (bthen Hbv1'.out hby.out)) (by have := Hsv0.out; omega)))
                    have Huy := Lib.hid (HUu.out.below hby.out Hsz1.out)
                    obtain ⟨t0, t1, t2, t3, t4⟩ := Hty.out.tab
                    obtain ⟨f0, f1, f2, f3, f4⟩ := Huy.out.tab
                    by_cases hNt : (N : Int) < t.nx
                    · have c1 : decide ((N : Int) < t.nx) = true := by simp [hNt]
                      have hN2 : N < 200 := by omega
                      have HCt := Lib.hid (column9_any t (N : Int) wr ((Hcat.out.1.to Hby.out).2 t Htm.out) (hwl.out t Htm.out).2.1)
                      have HKN := Lib.hid (HKc.out (N : Int) hNt)
                      generalize colNm t (N : Int) = an at HCt HKN
                      generalize (colN t (N : Int)).isSome = was at HCt HKN
                      go_wp2_with fail
                      refine HCt.out.mono ?_
                      rintro e y1 ⟨rfl, hb1⟩
                      have Hb1 := Lib.hid hb1; clear hb1
                      have HCu := Lib.hid (column9_any u (N : Int) y1 ((hc2.out.1.to (bthen Hby.out Hb1.out)).2 u Hum.out) (Hw2.out u Hum.out).2.1)
                      generalize colNm u (N : Int) = bn2 at HCu HKN
                      generalize (colN u (N : Int)).isSome = is at HCu HKN
                      clear t0 t1 t2 t3 t4 f0 f1 f2 f3 f4
                      obtain ⟨f0, f1, f2, f3, f4⟩ := (Huy.out.below Hb1.out (Nat.lt_of_lt_of_le Hsz1.out hby.out.size)).tab
                      go_wp2_with fail
                      refine HCu.out.mono ?_
                      rintro e y2 ⟨rfl, hb2⟩
                      have Hb2 := Lib.hid (bthen Hb1.out hb2); clear hb2 f0 f1 f2 f3 f4
                      cases is
                      · go_wp2_with fail
                        go_roundw
                        case rel => exact ⟨N + 1, by omega, by go_num, bthen hby.out Hb2.out⟩
                        case measure => simp [intOf]; omega
                      · obtain ⟨hw, hk⟩ := HKN.out rfl
                        subst hw
                        obtain ⟨b4, o4, hAe, hbB4, z0, _⟩ := DdlsAt.get (HDs.out y2 (Hbw.out.trans ((bthen Hby.out Hb2.out).mono Hbw.out.size))) n d Hd.out
                        cases hAe
                        by_cases h6 : d.p.op = 6
                        · have q6 : (d.p.op == 6) = true := by rw [beq_iff_eq]; exact h6
                          have q6' : (d.p.op != 6) = false := by rw [bne, q6]; rfl
                          clear h6 hk
                          cases hh : (an.toList == bn2.toList)
                          · have hh' : (an.toList != bn2.toList) = true := by rw [bne, hh]; rfl
                            go_wp2_with fail
                            go_roundw
                            case rel => exact ⟨N + 1, by omega, by go_num, bthen hby.out Hb2.out⟩
                            case measure => simp [intOf]; omega
                          · have hh' : (an.toList != bn2.toList) = false := by rw [bne, hh]; rfl
                            go_wp2_with fail
                            go_roundw
                            case rel => exact ⟨N + 1, by omega, by go_num, bthen hby.out Hb2.out⟩
                            case measure => simp [intOf]; omega
                        · have hab := hk h6
                          subst hab
                          have hh : (an.toList == an.toList) = true := beq_self_eq_true _
                          have hh' : (an.toList != an.toList) = false := by rw [bne, hh]; rfl
                          clear h6 hk
                          go_wp2_with fail
                          go_roundw
                          case rel => exact ⟨N + 1, by omega, by go_num, bthen hby.out Hb2.out⟩
                          case measure => simp [intOf]; omega
                    · have c1 : decide ((N : Int) < t.nx) = false := by simp; omega
                      go_wp2_with fail
                      go_roundw
                      case rel => exact ⟨q + 1, by omega, by go_num, Hby.out⟩
                      case measure => simp [intOf]; omega
          · have e0 : wr.cell? ⟨bn, 0, none⟩ = some (.slice A2 l2.length k2) := (hbq.out.cell (p := ⟨bn, 0, none⟩) Hlbn.out).trans U0.out
            have hbxq := Hbxc.out.below hbq.out
            have f0 := hbxq.frozen
            have HbE := Lib.hid (bput (Hbw.out.trans (hbq.out.mono Hbw.out.size)) (Nat.le_refl _) 0 (.slice A2 l2.length k2))
            have HbxE := Lib.hid (hbxq.set (.slice A2 l2.length k2))
            have HcatE := Lib.hid ((show CatAt wr A2 k2 l2 from ⟨hc2.out.1.to hbq.out, hc2.out.2⟩).put hbxq (.slice A2 l2.length k2))
            clear hbxq
            go_wp2_with fail
            go_roundw
            case rel => exact ⟨n + 1, A2, k2, l2, by omega, by go_num, by omega, HbxE.out, HcatE.out, HR2.out, Hw2.out, HbE.out⟩
            case measure => simp [intOf]; omega
    · go_wp2_with fail
      go_ret
      exact ⟨rfl, hb.out⟩
theorem walk (A : Option Addr) (cap : Nat) (l : List Tb) (Al : Option Addr) (cl : Nat) (ds : List Db) (w : World) (hc : TabsIn w A cap l) (hd : DdlsIn w Al cl ds) (hs : ∀ d ∈ ds, SmD d.p) (hL : laidMetH Tryz.prog Rows.ddlKeepsIdsRow.laid w) :
    Calls Tryz.prog 4 #[.agg #[.slice A l.length cap], .slice Al ds.length cl] w fun e w' => e = .returned (.bool true) ∧ Below w.heap.size w w' :=
  walk_t A cap l Al cl ds w hc hd hs (utab_of (by kernel_rfl) (by repeat (first | exact List.Mem.head _ | apply List.Mem.tail)) (by repeat (first | exact List.Mem.head _ | apply List.Mem.tail)) hL)
theorem own : ownKnob Tryz.prog.godebug = none := by kernel_rfl
theorem laidOut : laidOutB Tryz.prog = true := by kernel_rfl
theorem door_met (os : Os) (args : Array Value) : laidMetH Tryz.prog Rows.ddlKeepsIdsRow.laid ((World.doorLaid Tryz.prog 19 os).forCall (fun _ _ => 0) ⟨#[], args, []⟩).memory :=
  laidMetH_of_parts3 (fuel := 8) (laidMet_of_run' 8 (by kernel_rfl) (by kernel_rfl)) (by kernel_rfl) (by kernel_rfl)
set_option maxRecDepth 100000 in
theorem lifted (os : Os) (started : os.Started) (H : Type) (enc : TypeId × Value → H) :
    ReturnsInHanded {} Tryz.checked os 4 .any (fun w args => (Rows.ddlKeepsIdsSpec.pre enc Tryz.prog Tryz.f4 [] false w args ∧ laidMetH Tryz.prog Rows.ddlKeepsIdsRow.laid w) ∧ sizedMet enc Tryz.prog Tryz.f4 (OpenSpec.ofChange Rows.ddlKeepsIdsSpec) false w args)
      (Rows.ddlKeepsIdsSpec.post enc Tryz.prog Tryz.f4 false true false false) := by
  refine returnsInHanded_of_change_and (C := Tryz.checked) (X := fun w _ => laidMetH Tryz.prog Rows.ddlKeepsIdsRow.laid w) (fun _ _ _ hh h => h.of_heap hh) own started (by kernel_rfl) Tryz.func4
    (ChangeSpec.witness_shaped (enc := enc) (C := Tryz.checked) (os := os) (X := fun w _ => laidMetH Tryz.prog Rows.ddlKeepsIdsRow.laid w) false (World.doorLaid Tryz.prog 19 os) #[.agg #[.slice none 0 0], .slice none 0 0] 8 rfl (World.shaped_of_RefB (by kernel_rfl) (by kernel_rfl)) (by kernel_rfl) (by kernel_rfl) (by kernel_rfl) (door_met os _)) ?_
  intro W base args ds gs before hval0 hW hcnd hz0 hL _
  have hval : ∀ (j : Nat) t v, Tryz.f4.params[j]? = some t → args[j]? = some v → Value.okWide Tryz.prog W .any base t v := hval0
  have hz1 := sized_each hz0
  have hW' := hW
  obtain ⟨p, q, hA0, hV, rfl, hfz, hnd⟩ := hW
  have hA : DataW.TrodAll enc Tryz.prog W 0 (fun _ => true) true Tryz.f4.params.toList args.toList ds p := hA0
  rw [Tryz.params4] at hA hval hz1
  obtain ⟨v0, vs0, d0, ds0, p0, q0, hargs, rfl, rfl, h0, r0⟩ := trodAll_cons hA
  obtain ⟨v1, vs1, d1, ds1, p1, q1, rfl, rfl, rfl, h1, r1⟩ := trodAll_cons r0
  obtain ⟨rfl, rfl, rfl⟩ := trodAll_nil r1
  obtain rfl : args = #[v0, v1] := by cases args; simp_all
  obtain ⟨rfl, rfl⟩ := trodVars_none hV
  have k0 := h0
  have lt0 : ∀ x ∈ p0, x.block < W.heap.size := by obtain ⟨m, hm⟩ := k0; exact DataW.trod_lt m _ _ _ hm
  obtain ⟨a0, cap0, l0, rfl, w0⟩ := openCat (hval 0 37 v0 rfl rfl) h0
  obtain ⟨a1, len1, cap1, rfl⟩ := okWide_slice Tryz.underlying38 (hval 1 38 v1 rfl rfl)
  have k1 := h1
  have lt1 : ∀ x ∈ p1, x.block < W.heap.size := by obtain ⟨m, hm⟩ := k1; exact DataW.trod_lt m _ _ _ hm
  obtain ⟨l1, rfl, w1, z1⟩ := openDDLsW h1 (hz1 1 38 d1 rfl rfl)
  clear hA0 hval0
  refine (walk a0 cap0 l0 a1 cap1 l1 W w0 w1 z1 hL).mono fun e W' ⟨he, bel⟩ => ?_
  subst he
  exact ⟨_, rfl, _, _, _, [], _, [], hW', trodAll_mk1 (shut_bool Tryz.underlying4 _), (trodAll_cons_mk (Below.trod laidOut (by kernel_rfl) (of_decide_eq_true (by kernel_rfl)) k0 bel lt0) (trodAll_cons_mk (Below.trod laidOut (by kernel_rfl) (of_decide_eq_true (by kernel_rfl)) k1 bel lt1) trodAll_mk0)), rfl, bel.frame _, fun h => by cases h⟩

theorem over : Rows.DdlKeepsIdsSaid :=
  OpenClaim.holds_of_wide 4 Tryz.f4 rfl rfl rfl rfl rfl rfl rfl ⟨rfl, rfl, rfl, rfl, rfl⟩ rfl rfl rfl rfl rfl (by kernel_rfl) Tryz.func4 (by kernel_rfl)
    (of_decide_eq_true (by kernel_rfl)) (by unfold Func.isWrapper; first | (rw [if_pos (by decide +kernel)]; kernel_rfl) | (rw [if_neg (by decide +kernel)]; exact ⟨rfl, rfl⟩))
    (fun os started H enc _ => lifted os started H enc)

/-- the given statement: the card -/
theorem proved : Rows.DdlKeepsIdsCardSaid :=
  Claim7.holds_tied_plain_at .later [] [.data, .data] true (true, "3ed9fbc85af2108e49d0eebe6137ce6d3b01cba58b31598a00b40f8eb211d8b9") false
    over (fun _ h => by cases h) (by kernel_rfl) (fun _ h => by cases h) ddlKeepsIds_row_tie rfl ⟨rfl, rfl⟩ (by kernel_rfl) rfl
    (fun f fn hf hfn => by
      obtain rfl : f = 4 := Option.some.inj ((show Tryz.prog.funcNamed "haulage/haulagelaw09.DdlKeepsIds" = some 4 by kernel_rfl).symm.trans hf) |>.symm
      obtain rfl : fn = Tryz.f4 := (Option.some.inj (Tryz.func4.symm.trans hfn)).symm
      exact ⟨by kernel_rfl, fun j t ht => by
        rw [Tryz.params4] at ht
        have hm : t ∈ [37, 38] := by simpa using Array.mem_of_getElem? ht
        have hall : ([37, 38].all fun u => !Tryz.prog.wantsStandIn u) = true := by kernel_rfl
        exact (show Tryz.prog.wantsStandIn t = false by simpa using List.all_eq_true.1 hall t hm)⟩)
    (by kernel_rfl)
#print axioms proved
end Go.Proofs.YtlbdbaafmdikcaaGreatDoor.ddlKeepsIds
