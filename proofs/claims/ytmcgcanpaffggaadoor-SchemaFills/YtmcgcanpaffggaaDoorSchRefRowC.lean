/-
  Contract of the document's own Row of layer 8.
-/
import Derived.Test.YtmcgcanpaffggaaDoorSchRefTabC
import Derived.Test.YtmcgcanpaffggaaDoorPart1
import Derived.Test.YtmcgcanpaffggaaDoorPart2
import Derived.Test.YtmcgcanpaffggaaDoorPart3
namespace Go.Proofs.YtmcgcanpaffggaaDoor
open Go.RowKit

/-- the values' numbers are numbers of 64 bits -/
def In64 (vs : List Vb) : Prop := ∀ v ∈ vs, -9223372036854775808 ≤ v.2.1 ∧ v.2.1 < 9223372036854775808
set_option maxRecDepth 100000 in
set_option maxHeartbeats 3200000 in
theorem rrow_any (t : Tb) (A : Option Addr) (cp : Nat) (vs : List Vb) (w : World) (hw : WfT t) (hA : TabAt w w.heap.size t) (hR : ValsAt w w.heap.size A vs) (hvl : vs.length ≤ 1000000) (h64 : In64 vs) :
    Calls Tryd.prog 34 #[TV t, .slice A vs.length cp] w fun e w' => e = .returned (.int .i64 (rowT t vs)) ∧ Below w.heap.size w w' := by
  obtain ⟨w0, hw0, hb0, hB, hs0⟩ := box_tab w t
  have Hw0 := Lib.hid hw0; clear hw0
  have Hb0 := Lib.hid hb0
  have HA := Lib.hid (RowAt.to hA hb0); clear hA
  have HR := Lib.hid (hR.to hb0); clear hR hb0
  have HB := Lib.hid hB; clear hB
  have Hs0 := Lib.hid hs0; clear hs0
  have H64 := Lib.hid h64; clear h64
  have hlen := hw.2.1
  have HQ := Lib.hid (rrtab_any t w0 hw HA.out); clear hw
  rw [← Hw0.out] at HQ
  cases hr : rightTab t
  · rw [hr] at HQ
    have He := Lib.hid (rowT_no (vs := vs) hr)
    clear hr
    go_enter Tryd.func34, Tryd.ntmps34
    go_wp2_with fail
    refine HQ.out.mono ?_
    rintro e w1 ⟨rfl, hb1⟩
    rw [Hw0.out] at hb1
    have Hb1 := Lib.hid (bthen Hb0.out hb1); clear hb1
    go_wp2_with fail
    go_ret
    exact ⟨by rw [He.out]; rfl, Hb1.out⟩
  rw [hr] at HQ
  have Hpos := Lib.hid (rightTab_len hr)
  by_cases hll : vs.length = t.cols.length
  · have hneq : ((vs.length : Int) != (t.cols.length : Int)) = false := by simp [hll]
    have heql : ((vs.length : Int) == (t.cols.length : Int)) = true := by simp [hll]
    have He := Lib.hid (rowT_yes hr hll)
    have Hll := Lib.hid hll
    clear hr hll
    obtain ⟨b, off, hAe, _⟩ := HA.out (by have := Hpos.out; omega)
    have HAe := Lib.hid hAe; clear hAe
    go_enter Tryd.func34, Tryd.ntmps34
    go_wp2_with fail
    refine HQ.out.mono ?_
    rintro e w1 ⟨rfl, hb1⟩
    rw [Hw0.out] at hb1
    have Hb1 := Lib.hid hb1; clear hb1
    obtain ⟨c0, c1, c2, c3, c4⟩ := (HB.out.below Hb1.out (by have := Hs0.out; omega)).tab
    rw [HAe.out] at c4
    go_wp2_with fail
    clear c0 c1 c2 c3 c4 hneq heql
    go_loopw [5] (fun i wr => ∃ k : Nat, k ≤ vs.length ∧ i = .int .i64 k ∧ Hid (∀ j c v, j < k → t.cols[j]? = some c → vs[j]? = some v → celE c v = 0) ∧ Hid (Below w0.heap.size w0 wr)) (fun i _ => vs.length - (intOf i).toNat)
    case atStart => exact ⟨0, by omega, rfl, fun j c v h => absurd h (by omega), Hb1.out⟩
    case round =>
      obtain ⟨k, hk, rfl, hall, hb⟩ := hrel
      have Hbw := Lib.hid (bthen Hb0.out hb.out)
      by_cases hlt2 : k < vs.length
      · have hlt : k < t.cols.length := by have := Hll.out; omega
        obtain ⟨c, hc⟩ : ∃ c, t.cols[k]? = some c := ⟨t.cols[k], by simp [hlt]⟩
        obtain ⟨v, hv⟩ : ∃ v, vs[k]? = some v := ⟨vs[k], by simp [hlt2]⟩
        have Hc := Lib.hid hc
        have Hv := Lib.hid hv
        have Hv64 := Lib.hid (H64.out v (List.mem_of_getElem? hv))
        obtain ⟨b', off', e', hbB, d0, d1, d2, d3, d4, d5, d6, d7⟩ := ColsAt.get (RowAt.below HA.out hb.out) k c hc
        rw [HAe.out] at e'
        cases e'
        obtain ⟨b2, off2, rfl, hbB2, ff⟩ := (HR.out.below hb.out) (by omega)
        obtain ⟨f0, f1, f2⟩ := ff k v hv
        clear hc hv ff
        obtain ⟨_, _, _, _, c4⟩ := (HB.out.below hb.out (show w.heap.size < w0.heap.size by have := Hs0.out; omega)).tab
        rw [HAe.out] at c4
        have q : ∀ w, (binOp .eql 35 (VV v.1 v.2.1 v.2.2) (VV 0 0 ⟨#[]⟩)).run Tryd.prog w = .ok (.bool (nulV v.1 v.2.1 v.2.2)) w := fun w => run_eql_V w v.1 v.2.1 0 0 v.2.2 ⟨#[]⟩
        have HFt := Lib.hid (fun w' => trfits_any c.tk c.tm v.1 v.2.1 v.2.2 w' Hv64.out.1 Hv64.out.2)
        have hk0 : (0 : Int) ≤ (k : Int) := by omega
        rcases celE_cases c v with ⟨h1, h2, h3⟩ | ⟨h1, h2, h3⟩ | ⟨h1, h2, h3⟩ | ⟨h1, h2, h3⟩
        · have Hall : Hid (∀ j d u, j < k + 1 → t.cols[j]? = some d → vs[j]? = some u → celE d u = 0) := fun j d u hj g1 g2 => by
            by_cases e : j = k
            · subst e
              rw [Hc.out] at g1; cases g1
              rw [Hv.out] at g2; cases g2
              exact h3
            · exact hall.out j d u (by omega) g1 g2
          rw [h1] at q
          rw [h2] at d4
          clear h1 h2 h3
          go_wp2_with fail
          go_roundw
          case rel => exact ⟨k + 1, by omega, by go_num, Hall, hb.out⟩
          case measure => simp [intOf]; omega
        · have He2 : Hid (rowT t vs = 11) := by show _ = _; rw [He.out, ← h3]; exact rowE_stop hall.out Hc.out Hv.out (by rw [h3]; decide)
          rw [h1] at q
          rw [h2] at d4
          clear h1 h2 h3
          go_wp2_with fail
          go_ret
          exact ⟨by rw [He2.out]; rfl, Hbw.out⟩
        · have Hall : Hid (∀ j d u, j < k + 1 → t.cols[j]? = some d → vs[j]? = some u → celE d u = 0) := fun j d u hj g1 g2 => by
            by_cases e : j = k
            · subst e
              rw [Hc.out] at g1; cases g1
              rw [Hv.out] at g2; cases g2
              exact h3
            · exact hall.out j d u (by omega) g1 g2
          rw [h1] at q
          rw [h2] at HFt
          clear h1 h2 h3
          have hne : Nonempty (BelowBy wr.heap.size wr) := ⟨⟨wr, Below.refl _ _⟩⟩
          have C4 : ∀ p : BelowBy wr.heap.size wr, p.x.cell? ⟨w.heap.size, 4, none⟩ = some (.slice (some ⟨b, off, none⟩) t.cols.length t.cap) := fun p => (p.h.cell (by have := Hs0.out; have := hb.out.size; simp; omega)).trans c4
          have D2 : ∀ p : BelowBy wr.heap.size wr, p.x.cell? ⟨b, off + k * 8 + 2, none⟩ = some (.int .i64 c.tk) := fun p => (p.h.cell (by have := hb.out.size; simp; omega)).trans d2
          have D3 : ∀ p : BelowBy wr.heap.size wr, p.x.cell? ⟨b, off + k * 8 + 3, none⟩ = some (.int .i64 c.tm) := fun p => (p.h.cell (by have := hb.out.size; simp; omega)).trans d3
          have F0 : ∀ p : BelowBy wr.heap.size wr, p.x.cell? ⟨b2, off2 + k * 3, none⟩ = some (.int .i64 v.1) := fun p => (p.h.cell (by have := hb.out.size; simp; omega)).trans f0
          have F1 : ∀ p : BelowBy wr.heap.size wr, p.x.cell? ⟨b2, off2 + k * 3 + 1, none⟩ = some (.int .i64 v.2.1) := fun p => (p.h.cell (by have := hb.out.size; simp; omega)).trans f1
          have F2 : ∀ p : BelowBy wr.heap.size wr, p.x.cell? ⟨b2, off2 + k * 3 + 2, none⟩ = some (.string v.2.2) := fun p => (p.h.cell (by have := hb.out.size; simp; omega)).trans f2
          go_wp2_with fail
          refine wp_region_below wr.heap.size (by kernel_rfl) (by kernel_rfl) ?_
          repeat (
            with_reducible refine wpQuiet_step (fun K hK => ?_)
            go_simp
            refine hK _ ?_
            clear hK K)
          with_reducible refine wpQuiet_step (fun K hK => ?_)
          go_simp
          apply Exists.intro
          refine ⟨fun p => ?_, hK _ ?_⟩
          exact (HFt.out _).mono fun e w5 ⟨he, hb⟩ => ⟨he, p.step (Nat.le_refl _) hb⟩
          clear hK K
          repeat (
            with_reducible refine wpQuiet_step (fun K hK => ?_)
            go_simp
            refine hK _ ?_
            clear hK K)
          refine wpQuiet_nil ?_
          rintro _ ⟨p, rfl⟩
          go_wp2_with fail
          go_roundw
          case rel => exact ⟨k + 1, by omega, by go_num, Hall, bthen hb.out p.h⟩
          case measure => simp [intOf]; omega
        · have He2 : Hid (rowT t vs = 10) := by show _ = _; rw [He.out, ← h3]; exact rowE_stop hall.out Hc.out Hv.out (by rw [h3]; decide)
          rw [h1] at q
          rw [h2] at HFt
          clear h1 h2 h3
          have hne : Nonempty (BelowBy wr.heap.size wr) := ⟨⟨wr, Below.refl _ _⟩⟩
          have C4 : ∀ p : BelowBy wr.heap.size wr, p.x.cell? ⟨w.heap.size, 4, none⟩ = some (.slice (some ⟨b, off, none⟩) t.cols.length t.cap) := fun p => (p.h.cell (by have := Hs0.out; have := hb.out.size; simp; omega)).trans c4
          have D2 : ∀ p : BelowBy wr.heap.size wr, p.x.cell? ⟨b, off + k * 8 + 2, none⟩ = some (.int .i64 c.tk) := fun p => (p.h.cell (by have := hb.out.size; simp; omega)).trans d2
          have D3 : ∀ p : BelowBy wr.heap.size wr, p.x.cell? ⟨b, off + k * 8 + 3, none⟩ = some (.int .i64 c.tm) := fun p => (p.h.cell (by have := hb.out.size; simp; omega)).trans d3
          have F0 : ∀ p : BelowBy wr.heap.size wr, p.x.cell? ⟨b2, off2 + k * 3, none⟩ = some (.int .i64 v.1) := fun p => (p.h.cell (by have := hb.out.size; simp; omega)).trans f0
          have F1 : ∀ p : BelowBy wr.heap.size wr, p.x.cell? ⟨b2, off2 + k * 3 + 1, none⟩ = some (.int .i64 v.2.1) := fun p => (p.h.cell (by have := hb.out.size; simp; omega)).trans f1
          have F2 : ∀ p : BelowBy wr.heap.size wr, p.x.cell? ⟨b2, off2 + k * 3 + 2, none⟩ = some (.string v.2.2) := fun p => (p.h.cell (by have := hb.out.size; simp; omega)).trans f2
          go_wp2_with fail
          refine wp_region_below wr.heap.size (by kernel_rfl) (by kernel_rfl) ?_
          repeat (
            with_reducible refine wpQuiet_step (fun K hK => ?_)
            go_simp
            refine hK _ ?_
            clear hK K)
          with_reducible refine wpQuiet_step (fun K hK => ?_)
          go_simp
          apply Exists.intro
          refine ⟨fun p => ?_, hK _ ?_⟩
          exact (HFt.out _).mono fun e w5 ⟨he, hb⟩ => ⟨he, p.step (Nat.le_refl _) hb⟩
          clear hK K
          repeat (
            with_reducible refine wpQuiet_step (fun K hK => ?_)
            go_simp
            refine hK _ ?_
            clear hK K)
          refine wpQuiet_nil ?_
          rintro _ ⟨p, rfl⟩
          go_wp2_with fail
          go_ret
          exact ⟨by rw [He2.out]; rfl, bthen Hbw.out p.h⟩
      · have He2 : Hid (rowT t vs = 0) := by
          show _ = _
          rw [He.out]
          exact rowE_done fun j c v h1 h2 => hall.out j c v (by have := (List.getElem?_eq_some_iff.1 h2).1; omega) h1 h2
        go_wp2_with fail
        go_ret
        exact ⟨by rw [He2.out]; rfl, Hbw.out⟩
  · have hneq : ((vs.length : Int) != (t.cols.length : Int)) = true := by simp; omega
    have heql : ((vs.length : Int) == (t.cols.length : Int)) = false := by simp; omega
    have He := Lib.hid (rowT_len hr hll)
    clear hr hll
    go_enter Tryd.func34, Tryd.ntmps34
    go_wp2_with fail
    refine HQ.out.mono ?_
    rintro e w1 ⟨rfl, hb1⟩
    rw [Hw0.out] at hb1
    have Hb1 := Lib.hid (bthen Hb0.out hb1)
    obtain ⟨c0, c1, c2, c3, c4⟩ := (HB.out.below hb1 (by have := Hs0.out; omega)).tab
    clear hb1
    go_wp2_with fail
    go_ret
    exact ⟨by rw [He.out]; rfl, Hb1.out⟩
end Go.Proofs.YtmcgcanpaffggaaDoor
