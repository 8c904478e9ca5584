/-
  Contracts of package schema's Cells and of the document's own.
-/
import Derived.Test.YtmcgcanpaffggaaDoorSchCellC
import Derived.Test.YtmcgcanpaffggaaDoorPart1
import Derived.Test.YtmcgcanpaffggaaDoorPart2
import Derived.Test.YtmcgcanpaffggaaDoorPart3
namespace Go.Proofs.YtmcgcanpaffggaaDoor
open Go.RowKit

def cellX (c : Cb) (v : Vb) : Xb := ⟨c.nm, c.tk, c.tm, v.1, v.2.1, v.2.2⟩
def zipC (cs : List Cb) (vs : List Vb) : List Xb := List.zipWith cellX cs vs
theorem zipC_take {cs : List Cb} {vs : List Vb} {k : Nat} {c : Cb} {v : Vb} (hc : cs[k]? = some c) (hv : vs[k]? = some v) : (zipC cs vs).take (k + 1) = (zipC cs vs).take k ++ [cellX c v] := by
  have : (zipC cs vs)[k]? = some (cellX c v) := by unfold zipC; rw [List.getElem?_zipWith, hc, hv]
  rw [List.take_add_one, this]; rfl
theorem zipC_length (cs : List Cb) (vs : List Vb) : (zipC cs vs).length = min cs.length vs.length := List.length_zipWith
theorem OwnX.mono {w : World} {base base' : Nat} {v : Value} {l : List Xb} (h : OwnX w base v l) (hb : base' ≤ base) : OwnX w base' v l :=
  ⟨h.1, h.2.imp id fun ⟨g, cap, cur, h1, h2, h3⟩ => ⟨g, cap, cur, h1, Nat.le_trans hb h2, h3⟩⟩
set_option maxRecDepth 100000 in
set_option maxHeartbeats 3200000 in
theorem scells_any (t : Tb) (A : Option Addr) (cp : Nat) (vs : List Vb) (w : World) (ht : UTab w) (hw : WfT t) (hA : TabAt w w.heap.size t) (hR : ValsAt w w.heap.size A vs) (hvl : vs.length ≤ 1000000) :
    Calls Tryd.prog 33 #[TV t, .slice A vs.length cp] w fun e w' => ∃ v, e = .returned (.tuple #[v, .int .i64 (rowT t vs)]) ∧ OwnX w' w.heap.size v (if rowT t vs = 0 then zipC t.cols vs else []) ∧ Below w.heap.size w w' := by
  obtain ⟨w0, hw0, hb0, hB, hs0⟩ := box_tab w t
  have Hw0 := Lib.hid hw0; clear hw0
  have Hb0 := Lib.hid hb0
  have HAw := Lib.hid hA
  have HRw := Lib.hid hR
  have HA := Lib.hid (RowAt.to hA hb0); clear hA
  have HR := Lib.hid (hR.to hb0); clear hR
  have HT := Lib.hid (ht.below hb0 (Nat.le_refl _)); clear ht hb0
  have HB := Lib.hid hB; clear hB
  have Hs0 := Lib.hid hs0; clear hs0
  have hlen := hw.2.1
  have HQ := Lib.hid (row_any t A cp vs w0 HT.out hw HA.out HR.out hvl); clear hw
  rw [← Hw0.out] at HQ
  by_cases hz : rowT t vs = 0
  · rw [hz] at HQ ⊢
    rw [if_pos rfl]
    have Hfit := Lib.hid (rowT_fits hz)
    have Hpos := Lib.hid (rightTab_len (rowT_fits hz).1)
    clear hz
    obtain ⟨b, off, hAe, _⟩ := HA.out (by have := Hpos.out; omega)
    have HAe := Lib.hid hAe; clear hAe
    go_enter Tryd.func33, Tryd.ntmps33
    go_wp2_with fail
    refine HQ.out.mono ?_
    rintro e w1 ⟨rfl, hb1⟩
    rw [Hw0.out] at hb1
    have Hb1 := Lib.hid (bthen Hb0.out hb1)
    obtain ⟨_, _, _, _, c4⟩ := (HB.out.below hb1 (by have := Hs0.out; omega)).tab
    rw [HAe.out] at c4
    clear hb1
    go_wp2_with fail
    clear c4
    go_loopw [7, 19] (fun v i wr => ∃ k : Nat, k ≤ t.cols.length ∧ i = .int .i64 k ∧ Hid (OwnX wr w.heap.size v ((zipC t.cols vs).take k)) ∧ Hid (Below w.heap.size w wr)) (fun _ i _ => t.cols.length - (intOf i).toNat)
    case atStart => exact ⟨0, by omega, rfl, OwnX.nil _ _, Hb1.out⟩
    case round =>
      obtain ⟨k, hk, rfl, ho, hb⟩ := hrel
      by_cases hlt : k < t.cols.length
      · have hlt2 : k < vs.length := by have := Hfit.out.2; omega
        obtain ⟨c, hc⟩ : ∃ c, t.cols[k]? = some c := ⟨t.cols[k], by simp [hlt]⟩
        obtain ⟨v, hv⟩ : ∃ v, vs[k]? = some v := ⟨vs[k], by simp [hlt2]⟩
        have Htk := Lib.hid (zipC_take hc hv)
        obtain ⟨b', off', e', hbB, d0, d1, d2, d3, d4, d5, d6, d7⟩ := ColsAt.get (RowAt.below HAw.out hb.out) k c hc
        rw [HAe.out] at e'
        cases e'
        obtain ⟨b2, off2, rfl, hbB2, ff⟩ := (HRw.out.below hb.out) (by omega)
        obtain ⟨f0, f1, f2⟩ := ff k v hv
        clear hc hv ff
        obtain ⟨w2, hw2, hb2, hX, hs2⟩ := box_col wr c
        have Hw2 := Lib.hid hw2; clear hw2
        have Hs2 := Lib.hid hs2; clear hs2
        have Hb2 := Lib.hid (bthen hb.out hb2)
        have HO2 := Lib.hid (ho.out.below hb2)
        obtain ⟨x0, x1, x2, x3, x4, x5, x6, x7⟩ := hX.col
        have g0 : w2.cell? ⟨b2, off2 + k * 3, none⟩ = some (.int .i64 v.1) := (hb2.cell (by have := hb.out.size; simp; omega)).trans f0
        have g1 : w2.cell? ⟨b2, off2 + k * 3 + 1, none⟩ = some (.int .i64 v.2.1) := (hb2.cell (by have := hb.out.size; simp; omega)).trans f1
        have g2 : w2.cell? ⟨b2, off2 + k * 3 + 2, none⟩ = some (.string v.2.2) := (hb2.cell (by have := hb.out.size; simp; omega)).trans f2
        clear hb2 hX
        have HL : Hid (((zipC t.cols vs).take k).length < 1000000) := by show _ < _; rw [List.length_take]; omega
        have Hsz : Hid (w.heap.size ≤ w2.heap.size) := Hb2.out.size
        have hk0 : (0 : Int) ≤ (k : Int) := by omega
        go_wp2_with fail
        rw [Hw2.out]
        clear f0 f1 f2 d0 d1 d2 d3 d4 d5 d6 d7
        go_region_law (refine step_append_cell rfl (.tmp 24) (.tmp 34) rfl w.heap.size _ _ (cellX c v) w2.heap.size (World.ownsRow.alloc HO2.out _) (by simp [Act.eval]) (by simp [Act.eval]) (by simp [cellX]) HL.out (by have := Hsz.out; simp; omega) ?_; intro v1 w3 ho1 hb3)
        all_goals (
          have R1 : OwnX w3 w.heap.size v1 ((zipC t.cols vs).take (k + 1)) := by rw [Htk.out]; exact ho1
          have R2 := ((Hb2.out.alloc Hsz.out _).drew).trans hb3
          clear hb3 ho1
          go_wp2
          go_roundw
          case rel => exact ⟨k + 1, by omega, by go_num, R1, R2⟩
          case measure => simp [intOf]; omega)
      · have hn : (zipC t.cols vs).take k = zipC t.cols vs := List.take_of_length_le (by rw [zipC_length]; omega)
        rw [hn] at ho
        go_wp2_with fail
        go_ret2
        exact ⟨_, rfl, ho.out, hb.out⟩
  · rw [if_neg hz]
    obtain ⟨z, hzz⟩ : ∃ z, rowT t vs = z := ⟨_, rfl⟩
    rw [hzz] at HQ hz ⊢
    clear hzz
    have hz0 : (z == 0) = false := by simpa using hz
    have hz1 : (z != 0) = true := by rw [neq_int, hz0]; rfl
    clear hz
    go_enter Tryd.func33, Tryd.ntmps33
    go_wp2_with fail
    refine HQ.out.mono ?_
    rintro e w1 ⟨rfl, hb1⟩
    rw [Hw0.out] at hb1
    have Hb1 := Lib.hid (bthen Hb0.out hb1); clear hb1
    go_wp2_with fail
    go_ret2
    exact ⟨_, rfl, OwnX.nil _ _, Hb1.out⟩
set_option maxRecDepth 100000 in
set_option maxHeartbeats 3200000 in
theorem rcells_any (t : Tb) (A : Option Addr) (cp : Nat) (vs : List Vb) (w : World) (hA : TabAt w w.heap.size t) (hR : ValsAt w w.heap.size A vs) (hvl : vs.length ≤ 1000000) (hll : vs.length = t.cols.length) :
    Calls Tryd.prog 36 #[TV t, .slice A vs.length cp] w fun e w' => ∃ v, e = .returned v ∧ OwnX w' w.heap.size v (zipC t.cols vs) ∧ Below w.heap.size w w' := by
  obtain ⟨w0, hw0, hb0, hB, hs0⟩ := box_tab w t
  have Hw0 := Lib.hid hw0; clear hw0
  have Hb0 := Lib.hid hb0
  have HA := Lib.hid (RowAt.to hA hb0); clear hA
  have HR := Lib.hid (hR.to hb0); clear hR hb0
  have HB := Lib.hid hB; clear hB
  have Hs0 := Lib.hid hs0; clear hs0
  have Hll := Lib.hid hll; clear hll
  go_enter Tryd.func36, Tryd.ntmps36
  go_wp2_with fail
  rw [Hw0.out]
  go_loopw [5, 6] (fun v i wr => ∃ k : Nat, k ≤ vs.length ∧ i = .int .i64 k ∧ Hid (OwnX wr w0.heap.size v ((zipC t.cols vs).take k)) ∧ Hid (Below w0.heap.size w0 wr)) (fun _ i _ => vs.length - (intOf i).toNat)
  case atStart => exact ⟨0, by omega, rfl, OwnX.nil _ _, Below.refl _ _⟩
  case round =>
    obtain ⟨k, hk, rfl, ho, hb⟩ := hrel
    by_cases hlt2 : k < vs.length
    · have hlt : k < t.cols.length := by have := Hll.out; omega
      obtain ⟨c, hc⟩ : ∃ c, t.cols[k]? = some c := ⟨t.cols[k], by simp [hlt]⟩
      obtain ⟨v, hv⟩ : ∃ v, vs[k]? = some v := ⟨vs[k], by simp [hlt2]⟩
      have Htk := Lib.hid (zipC_take hc hv)
      obtain ⟨b, off, hAe, hbB, d0, d1, d2, d3, d4, d5, d6, d7⟩ := ColsAt.get (RowAt.below HA.out hb.out) k c hc
      obtain ⟨b2, off2, rfl, hbB2, ff⟩ := (HR.out.below hb.out) (by omega)
      obtain ⟨f0, f1, f2⟩ := ff k v hv
      obtain ⟨_, _, _, _, c4⟩ := (HB.out.below hb.out (show w.heap.size < w0.heap.size by have := Hs0.out; omega)).tab
      rw [hAe] at c4
      clear hc hv ff hAe
      have HL : Hid (((zipC t.cols vs).take k).length < 1000000) := by show _ < _; rw [List.length_take]; omega
      have Hsz : Hid (w0.heap.size ≤ wr.heap.size) := hb.out.size
      have hk0 : (0 : Int) ≤ (k : Int) := by omega
      go_wp2_with fail
      go_region_law (refine step_append_cell rfl (.tmp 13) (.tmp 31) rfl w0.heap.size _ _ (cellX c v) wr.heap.size (World.ownsRow.alloc ho.out _) (by simp [Act.eval]) (by simp [Act.eval]) (by simp [cellX]) HL.out (by have := Hsz.out; simp; omega) ?_; intro v1 w3 ho1 hb3)
      all_goals (
        have R1 : OwnX w3 w0.heap.size v1 ((zipC t.cols vs).take (k + 1)) := by rw [Htk.out]; exact ho1
        have R2 := ((hb.out.alloc Hsz.out _).drew).trans hb3
        clear hb3 ho1
        go_wp2
        go_roundw
        case rel => exact ⟨k + 1, by omega, by go_num, R1, R2⟩
        case measure => simp [intOf]; omega)
    · have hn : (zipC t.cols vs).take k = zipC t.cols vs := List.take_of_length_le (by rw [zipC_length]; omega)
      rw [hn] at ho
      go_wp2_with fail
      go_ret
      exact ⟨_, rfl, OwnX.mono ho.out (by have := Hs0.out; omega), bthen Hb0.out hb.out⟩
end Go.Proofs.YtmcgcanpaffggaaDoor
