/-
  Contract of the document's own with of layer 8.
-/
import Derived.Test.YtmcgcanpaffggaaDoorSchRefFldC
import Derived.Test.YtmcgcanpaffggaaDoorSchRefRowC
import Derived.Test.YtmcgcanpaffggaaDoorPart1
import Derived.Test.YtmcgcanpaffggaaDoorPart2
import Derived.Test.YtmcgcanpaffggaaDoorPart3
namespace Go.Proofs.YtmcgcanpaffggaaDoor
open Go.RowKit

theorem updR_in64 {t : Tb} {l : List Fb} : ∀ {vs : List Vb}, In64 vs → (∀ f ∈ l, -9223372036854775808 ≤ f.n ∧ f.n < 9223372036854775808) → In64 (updR t vs l) := by
  unfold updR
  induction l with
  | nil => exact fun h _ => h
  | cons f l ih =>
    intro vs h hf
    rw [List.foldl_cons]
    refine ih (fun v hv => ?_) (fun g hg => hf g (List.mem_cons_of_mem _ hg))
    rcases List.mem_or_eq_of_mem_set hv with h1 | h1
    · exact h v h1
    · subst h1
      exact hf f List.mem_cons_self
/-- the row, if it fits -/
noncomputable def withR (t : Tb) (vs : List Vb) (l : List Fb) : List Vb := if rowT t (updR t vs l) = 0 then updR t vs l else []
/-- each field has its column -/
def HasCols (t : Tb) (l : List Fb) : Prop := ∀ f ∈ l, ∃ q, colI t f.nm = some q
set_option maxRecDepth 100000 in
set_option maxHeartbeats 6400000 in
theorem rwith_any (t : Tb) (A : Option Addr) (n cp : Nat) (vs : List Vb) (Al : Option Addr) (cl : Nat) (l : List Fb) (w : World) (hw : WfT t) (hA : TabAt w w.heap.size t) (hR : ValsAt w w.heap.size A vs) (hn : A = none → cp = 0) (hvn : vs.length = n) (hvl : n = t.cols.length)
    (hF : FldsAt w w.heap.size Al l) (hll : l.length ≤ 1000000) (hc : HasCols t l) (h64 : In64 (updR t vs l)) :
    Calls Tryd.prog 71 #[TV t, .slice A n cp, .slice Al l.length cl] w fun e w' => ∃ v, e = .returned (.tuple #[v, .int .i64 (rowT t (updR t vs l))]) ∧ OwnV w' w.heap.size v (withR t vs l) ∧ Below w.heap.size w w' := by
  obtain ⟨w0, hw0, hb0, hB, hs0⟩ := box_tab w t
  have Hw0 := Lib.hid hw0; clear hw0
  have Hb0 := Lib.hid hb0
  have HA := Lib.hid (RowAt.to hA hb0); clear hA
  have HR := Lib.hid (hR.to (bthen hb0 (below_one w0 (.cells #[] 35)))); clear hR
  have HF := Lib.hid (RowAt.to hF hb0); clear hF hb0
  have HB := Lib.hid hB; clear hB
  have Hs0 := Lib.hid hs0; clear hs0
  have HW := Lib.hid hw
  have hlen := hw.2.1; clear hw
  have HN := Lib.hid hn; clear hn
  have Hvn := Lib.hid hvn
  have Hvl := Lib.hid hvl
  have hnm : n ≤ 1000000 := by omega
  clear hvn hvl
  have HC := Lib.hid hc; clear hc
  have H64 := Lib.hid h64; clear h64
  have HO0 := Lib.hid (OwnV.lit0 w0 w0.heap.size (Nat.le_refl _))
  have HbL := Lib.hid (below_one w0 (.cells #[] 35))
  rw [← Hw0.out] at HO0 HR
  have Hsz0 : Hid (w0.heap.size = w.heap.size + 1) := Hs0.out
  go_enter Tryd.func71, Tryd.ntmps71
  go_wp2_with (at_builtin; refine wpList_append_vals rfl _ _ rfl (w.alloc (.cells #[.int .i64 t.id, .string t.nm, .int .i64 t.key, .int .i64 t.nx, .slice t.A t.cols.length t.cap] 29)).heap.size _ [] A _ cp vs HO0.out (by simp [Act.eval]) rfl Hvn.out.symm HN.out HR.out (by have := Hvn.out; simp; omega) (by simp) ?_; intro v1 w1 ho1 hb1)
  rw [Hw0.out] at ho1 hb1
  have HO1 : Hid (OwnV w1 w0.heap.size v1 vs) := ho1
  have Hb1 := Lib.hid (HbL.out.trans hb1)
  clear ho1 hb1 HO0 HR
  go_loopw [9] (fun i wr => ∃ k : Nat, k ≤ l.length ∧ i = .int .i64 k ∧ Hid (OwnV wr w0.heap.size v1 (updR t vs (l.take k))) ∧ Hid (Below w0.heap.size w0 wr)) (fun i _ => l.length - (intOf i).toNat)
  case atStart => exact ⟨0, by omega, rfl, HO1.out, Hb1.out⟩
  case round =>
    obtain ⟨k, hk, rfl, ho, hb⟩ := hrel
    have Hbw := Lib.hid (bthen Hb0.out hb.out)
    obtain ⟨c0, c1, c2, c3, c4⟩ := (HB.out.below hb.out (show w.heap.size < w0.heap.size by have := Hs0.out; omega)).tab
    by_cases hlt : k < l.length
    · obtain ⟨x, hx⟩ : ∃ x, l[k]? = some x := ⟨l[k], by simp [hlt]⟩
      have Hx := Lib.hid hx
      obtain ⟨q, hq⟩ := HC.out x (List.mem_of_getElem? hx)
      have hql := colI_lt hq
      have Hup := Lib.hid (updR_take (vs := vs) hx hq)
      have Hq := Lib.hid hq
      have Hul : Hid ((updR t vs (l.take k)).length = t.cols.length) := by show _ = _; rw [updR_length, Hvn.out, Hvl.out]
      obtain ⟨g, cap, rfl, hg1, hg2, hg3⟩ := ho.out.shape' Hul.out (by omega)
      obtain ⟨b, off, rfl, hbB, d0, d1, d2, d3⟩ := FldsAt.get (RowAt.below HF.out hb.out) k x hx
      clear hx hq
      have HL : Hid (∀ w', TabAt w' w'.heap.size t → Calls Tryd.prog 26 #[TV t, .string x.nm] w' fun e w2 => e = .returned (.int .i64 (q : Int)) ∧ Below w'.heap.size w' w2) := fun w' hA' => by
        have := rcolI_any t x.nm w' hA' hlen
        rw [Hq.out] at this
        exact this
      have HAr := Lib.hid (RowAt.to HA.out hb.out)
      have HAd : Hid (TabAt wr.drew wr.drew.heap.size t) := RowAt.below HAr.out (Below.refl _ _).drew
      have hk0 : (0 : Int) ≤ (k : Int) := by omega
      obtain ⟨y, hy⟩ : ∃ y, (updR t vs (l.take k))[q]? = some y := ⟨(updR t vs (l.take k))[q]'(by rw [Hul.out]; exact hql), by simp [Hul.out, hql]⟩
      obtain ⟨y0, y1, y2⟩ := P3_at _ q y hy
      have HY := Lib.hid (show _ ∧ _ ∧ _ from ⟨y0, y1, y2⟩)
      clear hy y0 y1 y2
      have hbB' : b < wr.heap.size := by have := hb.out.size; omega
      have hq0 : (0 : Int) ≤ (q : Int) := by omega
      have hqI : (q : Int) < (t.cols.length : Int) := by omega
      go_wp2_with fail
      go_region_with (first
        | (go_at_call 26; refine (HL.out _ HAd.out).mono ?_; rintro e w2 ⟨rfl, hb2⟩; have Hb2 := Lib.hid ((Below.refl wr.heap.size wr).drew.trans hb2); clear hb2; have HO2 := Lib.hid (ho.out.below Hb2.out); have e0 := (Hb2.out.cell (p := ⟨b, off + k * 4, none⟩) hbB').trans d0; have e1 := (Hb2.out.cell (p := ⟨b, off + k * 4 + 1, none⟩) hbB').trans d1; have e2 := (Hb2.out.cell (p := ⟨b, off + k * 4 + 2, none⟩) hbB').trans d2; have e3 := (Hb2.out.cell (p := ⟨b, off + k * 4 + 3, none⟩) hbB').trans d3; have z0 := World.ownsRow.cells HO2.out (g := g) rfl _ _ HY.out.1; have z1 := World.ownsRow.cells HO2.out (g := g) rfl _ _ HY.out.2.1; have z2 := World.ownsRow.cells HO2.out (g := g) rfl _ _ HY.out.2.2; rw [Addr.add_lit, Nat.zero_add] at z0 z1 z2; have hO4 : OwnV w2 w0.heap.size (.slice (some ⟨g, 0, none⟩) (updR t vs (l.take k)).length cap) (updR t vs (l.take k)) := (by rw [Hul.out]; exact HO2.out); have g0 := World.ownsRow.frozenAt hO4 (q * 3); have g1 := World.ownsRow.frozenAt hO4 (q * 3 + 1); have g2 := World.ownsRow.frozenAt hO4 (q * 3 + 2); have HO4 := Lib.hid hO4; clear hO4)
        | fail)
      all_goals
        have HO5 := Lib.hid (HO4.out.set3 q x.v)
        rw [Hul.out, ← Hup.out] at HO5
        have Hb5 := Lib.hid ((((bthen hb.out Hb2.out).setCell (p := ⟨g, q * 3, none⟩) hg1 (.int .i64 x.k)).setCell (p := ⟨g, q * 3 + 1, none⟩) hg1 (.int .i64 x.n)).setCell (p := ⟨g, q * 3 + 2, none⟩) hg1 (.string x.s))
        go_wp2_with fail
        go_roundw
        case rel => exact ⟨k + 1, by omega, by go_num, HO5, Hb5⟩
        case measure => simp [intOf]; omega
    · have hkl : l.take k = l := List.take_of_length_le (by omega)
      rw [hkl] at ho
      clear hkl
      obtain ⟨A2, c2', rfl, hA2⟩ := ValsAt.of_own ho.out
      have HRow := Lib.hid (rrow_any t A2 c2' (updR t vs l) wr HW.out (RowAt.to HA.out hb.out) hA2 (by rw [updR_length, Hvn.out]; omega) H64.out)
      clear hA2
      by_cases hz : rowT t (updR t vs l) = 0
      · have Hr : Hid (withR t vs l = updR t vs l) := by show _ = _; unfold withR; rw [if_pos hz]
        have Hz := Lib.hid hz
        rw [hz] at HRow
        clear hz
        go_wp2_with fail
        refine HRow.out.mono ?_
        rintro e w3 ⟨rfl, hb3⟩
        have HO3 := Lib.hid (ho.out.below hb3)
        have Hb3 := Lib.hid (bthen Hbw.out hb3); clear hb3
        go_wp2_with fail
        go_ret2
        exact ⟨_, by rw [Hz.out]; rfl, by rw [Hr.out]; exact HO3.out.mono (by have := Hs0.out; omega), Hb3.out⟩
      · have Hr : Hid (withR t vs l = []) := by show _ = _; unfold withR; rw [if_neg hz]
        obtain ⟨z, hzz⟩ : ∃ z, rowT t (updR t vs l) = z := ⟨_, rfl⟩
        rw [hzz] at HRow hz
        have Hzz := Lib.hid hzz
        clear hzz
        have hz0 : (z == 0) = false := by simpa using hz
        have hz1 : (z != 0) = true := by rw [neq_int, hz0]; rfl
        clear hz
        go_wp2_with fail
        refine HRow.out.mono ?_
        rintro e w3 ⟨rfl, hb3⟩
        have Hb3 := Lib.hid (bthen Hbw.out hb3); clear hb3
        go_wp2_with fail
        go_ret2
        exact ⟨_, by rw [Hzz.out]; rfl, by rw [Hr.out]; exact OwnV.nil _ _, Hb3.out⟩
end Go.Proofs.YtmcgcanpaffggaaDoor
