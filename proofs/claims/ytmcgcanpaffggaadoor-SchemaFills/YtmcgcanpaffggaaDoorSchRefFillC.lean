/-
  Contracts of the document's own Fill and Set of layer 8.
-/
import Derived.Test.YtmcgcanpaffggaaDoorSchRefWithC
import Derived.Test.YtmcgcanpaffggaaDoorPart1
import Derived.Test.YtmcgcanpaffggaaDoorPart2
import Derived.Test.YtmcgcanpaffggaaDoorPart3
namespace Go.Proofs.YtmcgcanpaffggaaDoor
open Go.RowKit

theorem fldE_col {t : Tb} {l : List Fb} {fixed : Int} {i : Nat} {f : Fb} (h : fldE t l fixed i f = 0) : ∃ q, colI t f.nm = some q := by
  cases e : colI t f.nm with
  | none => rw [fldE_13 e] at h; cases h
  | some q => exact ⟨q, rfl⟩
theorem fldsE_all {t : Tb} {l : List Fb} {fixed : Int} (h : fldsE t l fixed = 0) : ∀ (j : Nat) f, l[j]? = some f → fldE t l fixed j f = 0 := by
  intro j
  induction j using Nat.strongRecOn with
  | _ j ih =>
    intro f hf
    by_cases e : fldE t l fixed j f = 0
    · exact e
    · have := fldsE_stop (fun i g hg hi => ih i hi g hg) hf e
      rw [h] at this
      exact absurd this.symm e
theorem hasCols_of {t : Tb} {l : List Fb} {fixed : Int} (h : fldsE t l fixed = 0) : HasCols t l := fun f hf => by
  obtain ⟨j, hj⟩ := List.mem_iff_getElem?.1 hf
  exact fldE_col (fldsE_all h j f hj)
theorem limE_0 {t : Tb} {l : List Fb} {fixed : Int} (h : limE t l fixed = 0) : ¬ 10 < l.length ∧ fldsE t l fixed = 0 := by
  unfold limE at h
  by_cases e : 10 < l.length
  · rw [if_pos e] at h; cases h
  · rw [if_neg e] at h; exact ⟨e, h⟩
/-- error and row of 'replace' in two steps -/
theorem repl_two {t : Tb} {vs : List Vb} {l : List Fb} {fixed : Int} : (limE t l fixed ≠ 0 → replE t vs l fixed = limE t l fixed ∧ replR t vs l fixed = []) ∧
    (limE t l fixed = 0 → replE t vs l fixed = rowT t (updR t vs l) ∧ replR t vs l fixed = withR t vs l) := by
  constructor
  · intro h
    by_cases e : 10 < l.length
    · have : limE t l fixed = 3 := by unfold limE; rw [if_pos e]
      rw [this]; exact replE_limit e
    · have : limE t l fixed = fldsE t l fixed := by unfold limE; rw [if_neg e]
      rw [this] at h ⊢
      exact replE_bad e rfl h
  · intro h
    obtain ⟨h1, h2⟩ := limE_0 h
    have := replE_row (vs := vs) h1 h2
    refine ⟨this, ?_⟩
    unfold replR withR
    rw [this]
def F64 (l : List Fb) : Prop := ∀ f ∈ l, -9223372036854775808 ≤ f.n ∧ f.n < 9223372036854775808
theorem defs64 {t : Tb} (hw : WfT t) : In64 (t.cols.map Cb.dv) := fun v hv => by
  obtain ⟨c, hc, rfl⟩ := List.mem_map.1 hv
  exact (hw.2.2.2 c hc).2
set_option maxRecDepth 100000 in
set_option maxHeartbeats 6400000 in
theorem rfill_any (t : Tb) (Al : Option Addr) (cl : Nat) (l : List Fb) (w : World) (hw : WfT t) (hA : TabAt w w.heap.size t) (hF : FldsAt w w.heap.size Al l) (hll : l.length ≤ 1000000) (h64 : F64 l) :
    Calls Tryd.prog 39 #[TV t, .slice Al l.length cl] w fun e w' => ∃ v, e = .returned (.tuple #[v, .int .i64 (fillE t l)]) ∧ OwnV w' w.heap.size v (fillR t l) ∧ Below w.heap.size w w' := by
  obtain ⟨w0, hw0, hb0, hB, hs0⟩ := box_tab w t
  have Hw0 := Lib.hid hw0; clear hw0
  have Hb0 := Lib.hid hb0
  have HA := Lib.hid (RowAt.to hA hb0); clear hA
  have HF := Lib.hid (RowAt.to hF hb0); clear hF hb0
  have HB := Lib.hid hB; clear hB
  have Hs0 := Lib.hid hs0; clear hs0
  have HW := Lib.hid hw
  have hlen := hw.2.1; clear hw
  have H64 := Lib.hid h64; clear h64
  have HQ := Lib.hid (rrtab_any t w0 HW.out HA.out)
  rw [← Hw0.out] at HQ
  have HFl := Lib.hid (fun w' hA' hF' => rflds_any t Al cl l false (-1) w' rfl hlen hA' hF')
  cases hr : rightTab t
  · rw [hr] at HQ
    have He : Hid (fillE t l = 2 ∧ fillR t l = []) := by show _ ∧ _; unfold fillE fillR; rw [hr]; exact ⟨rfl, rfl⟩
    clear hr
    go_enter Tryd.func39, Tryd.ntmps39
    go_wp2_with fail
    refine HQ.out.mono ?_
    rintro e w1 ⟨rfl, hb1⟩
    rw [Hw0.out] at hb1
    have Hb1 := Lib.hid (bthen Hb0.out hb1); clear hb1
    go_wp2_with fail
    go_ret2
    exact ⟨_, by rw [He.out.1]; rfl, by rw [He.out.2]; exact OwnV.nil _ _, Hb1.out⟩
  rw [hr] at HQ
  have Hpos := Lib.hid (rightTab_len hr)
  have He : Hid (fillE t l = replE t (t.cols.map Cb.dv) l (-1) ∧ fillR t l = replR t (t.cols.map Cb.dv) l (-1)) := by show _ ∧ _; unfold fillE fillR; rw [hr]; exact ⟨rfl, rfl⟩
  clear hr
  obtain ⟨b, off, hAe, _⟩ := HA.out (by have := Hpos.out; omega)
  have HAe := Lib.hid hAe; clear hAe
  by_cases hz : limE t l (-1) = 0
  · have Hr := Lib.hid ((repl_two (vs := t.cols.map Cb.dv)).2 hz)
    have Hcs := Lib.hid (hasCols_of (limE_0 hz).2)
    rw [hz] at HFl
    clear hz
    have HU64 := Lib.hid (updR_in64 (t := t) (defs64 HW.out) H64.out)
    have HWi := Lib.hid (fun A n cp w' hA' hR' hn' hvn' hF' => rwith_any t A n cp (t.cols.map Cb.dv) Al cl l w' HW.out hA' hR' hn' hvn' (by rw [← hvn']; exact List.length_map _) hF' hll Hcs.out HU64.out)
    go_enter Tryd.func39, Tryd.ntmps39
    go_wp2_with fail
    refine HQ.out.mono ?_
    rintro e w1 ⟨rfl, hb1⟩
    rw [Hw0.out] at hb1
    have Hb1 := Lib.hid hb1; clear hb1
    obtain ⟨c0, c1, c2, c3, c4⟩ := (HB.out.below Hb1.out (by have := Hs0.out; omega)).tab
    go_wp2_with fail
    refine (HFl.out w1 (RowAt.to HA.out Hb1.out) (RowAt.to HF.out Hb1.out)).mono ?_
    rintro e w2 ⟨rfl, hb2⟩
    have Hb2 := Lib.hid (bthen Hb1.out hb2); clear hb2 c0 c1 c2 c3 c4
    go_wp2_with fail
    go_loopw [7, 8] (fun v i wr => ∃ k : Nat, k ≤ t.cols.length ∧ i = .int .i64 k ∧ Hid (OwnV wr w0.heap.size v ((t.cols.map Cb.dv).take k)) ∧ Hid (Below w0.heap.size w0 wr)) (fun _ i _ => t.cols.length - (intOf i).toNat)
    case atStart => exact ⟨0, by omega, rfl, OwnV.nil _ _, Hb2.out⟩
    case round =>
      obtain ⟨k, hk, rfl, ho, hb⟩ := hrel
      have Hbw := Lib.hid (bthen Hb0.out hb.out)
      obtain ⟨c0, c1, c2, c3, c4⟩ := (HB.out.below hb.out (show w.heap.size < w0.heap.size by have := Hs0.out; omega)).tab
      by_cases hlt : k < t.cols.length
      · obtain ⟨c, hc⟩ : ∃ c, t.cols[k]? = some c := ⟨t.cols[k], by simp [hlt]⟩
        have Hn : Hid ((t.cols.map Cb.dv).take (k + 1) = (t.cols.map Cb.dv).take k ++ [c.dv]) := by
          show _ = _
          rw [List.take_add_one, List.getElem?_map, hc]; rfl
        have Hlen : Hid (((t.cols.map Cb.dv).take k).length < 1000000) := by
          show _ < _
          rw [List.length_take, List.length_map]; omega
        obtain ⟨b', off', e', hbB, d0, d1, d2, d3, d4, d5, d6, d7⟩ := ColsAt.get (RowAt.below HA.out hb.out) k c hc
        rw [HAe.out] at e' c4
        cases e'
        clear hc
        have Hs := Lib.hid hb.out.size
        go_wp2_with (at_builtin; refine wpList_append_val rfl _ _ rfl w0.heap.size _ ((t.cols.map Cb.dv).take k) c.dk c.dn c.ds _ ho.out rfl rfl (by simp) Hlen.out Hs.out ?_; intro v1 w3 ho1 hb3)
        have HO1 : Hid (OwnV w3 w0.heap.size v1 ((t.cols.map Cb.dv).take (k + 1))) := by show OwnV _ _ _ _; rw [Hn.out]; exact ho1
        have Hb3 := Lib.hid (hb.out.trans hb3)
        clear ho1 hb3
        go_roundw
        case rel => exact ⟨k + 1, by omega, by go_num, HO1.out, Hb3.out⟩
        case measure => simp [intOf]; omega
      · have Hn : Hid ((t.cols.map Cb.dv).take k = t.cols.map Cb.dv) := List.take_of_length_le (by rw [List.length_map]; omega)
        rw [Hn.out] at ho
        obtain ⟨A2, p2, rfl, hA2, hn2⟩ := ValsAt.of_own' ho.out (List.length_map _)
        have HWr := Lib.hid (HWi.out A2 t.cols.length p2 wr (RowAt.to HA.out hb.out) hA2 hn2 (List.length_map _) (RowAt.to HF.out hb.out))
        clear hA2 hn2
        go_wp2_with fail
        refine HWr.out.mono ?_
        rintro e w3 ⟨v3, rfl, ho3, hb3⟩
        have Hb3 := Lib.hid (bthen Hbw.out hb3)
        have HO3 := Lib.hid (ho3.mono Hbw.out.size)
        clear ho3 hb3
        go_wp2_with fail
        go_ret2
        exact ⟨_, by rw [He.out.1, Hr.out.1]; rfl, by rw [He.out.2, Hr.out.2]; exact HO3.out, Hb3.out⟩
  · have Hr := Lib.hid ((repl_two (vs := t.cols.map Cb.dv)).1 hz)
    obtain ⟨z, hzz⟩ : ∃ z, limE t l (-1) = z := ⟨_, rfl⟩
    rw [hzz] at HFl hz Hr
    clear hzz
    have hz0 : (z == 0) = false := by simpa using hz
    have hz1 : (z != 0) = true := by rw [neq_int, hz0]; rfl
    clear hz
    go_enter Tryd.func39, Tryd.ntmps39
    go_wp2_with fail
    refine HQ.out.mono ?_
    rintro e w1 ⟨rfl, hb1⟩
    rw [Hw0.out] at hb1
    have Hb1 := Lib.hid hb1; clear hb1
    obtain ⟨c0, c1, c2, c3, c4⟩ := (HB.out.below Hb1.out (by have := Hs0.out; omega)).tab
    go_wp2_with fail
    refine (HFl.out w1 (RowAt.to HA.out Hb1.out) (RowAt.to HF.out Hb1.out)).mono ?_
    rintro e w2 ⟨rfl, hb2⟩
    have Hb2 := Lib.hid (bthen (bthen Hb0.out Hb1.out) hb2); clear hb2
    go_wp2_with fail
    go_ret2
    exact ⟨_, by rw [He.out.1, Hr.out.1]; rfl, by rw [He.out.2, Hr.out.2]; exact OwnV.nil _ _, Hb2.out⟩
theorem key_some {t : Tb} (h : rightTab t = true) : ∃ q, keyI t = some q := by
  unfold rightTab at h
  simp only [Bool.and_eq_true] at h
  obtain ⟨i, c, h1, _⟩ := tf_iff.1 h.2.2.2.2.2.2
  exact ⟨i, h1⟩
set_option maxRecDepth 100000 in
set_option maxHeartbeats 6400000 in
theorem rset_any (t : Tb) (A : Option Addr) (cp : Nat) (vs : List Vb) (Al : Option Addr) (cl : Nat) (l : List Fb) (w : World) (hw : WfT t) (hA : TabAt w w.heap.size t) (hR : ValsAt w w.heap.size A vs) (hn : A = none → cp = 0) (hvm : vs.length ≤ 1000000) (h64v : In64 vs)
    (hF : FldsAt w w.heap.size Al l) (hll : l.length ≤ 1000000) (h64 : F64 l) :
    Calls Tryd.prog 42 #[TV t, .slice A vs.length cp, .slice Al l.length cl] w fun e w' => ∃ v, e = .returned (.tuple #[v, .int .i64 (setE t vs l)]) ∧ OwnV w' w.heap.size v (setR t vs l) ∧ Below w.heap.size w w' := by
  obtain ⟨w0, hw0, hb0, hB, hs0⟩ := box_tab w t
  have Hw0 := Lib.hid hw0; clear hw0
  have Hb0 := Lib.hid hb0
  have HA := Lib.hid (RowAt.to hA hb0); clear hA
  have HR := Lib.hid (hR.to hb0); clear hR
  have HF := Lib.hid (RowAt.to hF hb0); clear hF hb0
  have HB := Lib.hid hB; clear hB
  have Hs0 := Lib.hid hs0; clear hs0
  have HW := Lib.hid hw
  have hlen := hw.2.1; clear hw
  have HN := Lib.hid hn; clear hn
  have H64 := Lib.hid h64; clear h64
  have H64v := Lib.hid h64v; clear h64v
  have HQ := Lib.hid (rrow_any t A cp vs w0 HW.out HA.out HR.out hvm H64v.out)
  rw [← Hw0.out] at HQ
  by_cases hz : rowT t vs = 0
  · obtain ⟨q, hq⟩ := key_some (rowT_fits hz).1
    have He : Hid (setE t vs l = replE t vs l (q : Int) ∧ setR t vs l = replR t vs l (q : Int)) := by show _ ∧ _; unfold setE setR; rw [if_pos hz, if_pos hz, hq]; exact ⟨rfl, rfl⟩
    have Hfit := Lib.hid (rowT_fits hz).2
    have HFl := Lib.hid (fun w' hA' hF' => rflds_any t Al cl l true (q : Int) w' (by rw [if_pos rfl, hq]; rfl) hlen hA' hF')
    rw [hz] at HQ
    clear hz hq
    by_cases hy : limE t l (q : Int) = 0
    · have Hr := Lib.hid ((repl_two (vs := vs)).2 hy)
      have Hcs := Lib.hid (hasCols_of (limE_0 hy).2)
      rw [hy] at HFl
      clear hy
      have HU64 := Lib.hid (updR_in64 (t := t) H64v.out H64.out)
      go_enter Tryd.func42, Tryd.ntmps42
      go_wp2_with fail
      refine HQ.out.mono ?_
      rintro e w1 ⟨rfl, hb1⟩
      rw [Hw0.out] at hb1
      have Hb1 := Lib.hid hb1; clear hb1
      obtain ⟨c0, c1, c2, c3, c4⟩ := (HB.out.below Hb1.out (by have := Hs0.out; omega)).tab
      go_wp2_with fail
      refine (HFl.out w1 (RowAt.to HA.out Hb1.out) (RowAt.to HF.out Hb1.out)).mono ?_
      rintro e w2 ⟨rfl, hb2⟩
      have Hb2 := Lib.hid (bthen Hb1.out hb2); clear hb2 c0 c1 c2 c3 c4
      obtain ⟨c0, c1, c2, c3, c4⟩ := (HB.out.below Hb2.out (by have := Hs0.out; omega)).tab
      go_wp2_with fail
      refine (rwith_any t A vs.length cp vs Al cl l w2 HW.out (RowAt.to HA.out Hb2.out) (HR.out.to Hb2.out) HN.out rfl Hfit.out (RowAt.to HF.out Hb2.out) hll Hcs.out HU64.out).mono ?_
      rintro e w3 ⟨v3, rfl, ho3, hb3⟩
      have Hb3 := Lib.hid (bthen (bthen Hb0.out Hb2.out) hb3)
      have HO3 := Lib.hid (ho3.mono (bthen Hb0.out Hb2.out).size)
      clear ho3 hb3
      go_wp2_with fail
      go_ret2
      exact ⟨_, by rw [He.out.1, Hr.out.1]; rfl, by rw [He.out.2, Hr.out.2]; exact HO3.out, Hb3.out⟩
    · have Hr := Lib.hid ((repl_two (vs := vs)).1 hy)
      obtain ⟨z, hzz⟩ : ∃ z, limE t l (q : Int) = z := ⟨_, rfl⟩
      rw [hzz] at HFl hy Hr
      clear hzz
      have hz0 : (z == 0) = false := by simpa using hy
      have hz1 : (z != 0) = true := by rw [neq_int, hz0]; rfl
      clear hy
      go_enter Tryd.func42, Tryd.ntmps42
      go_wp2_with fail
      refine HQ.out.mono ?_
      rintro e w1 ⟨rfl, hb1⟩
      rw [Hw0.out] at hb1
      have Hb1 := Lib.hid hb1; clear hb1
      obtain ⟨c0, c1, c2, c3, c4⟩ := (HB.out.below Hb1.out (by have := Hs0.out; omega)).tab
      go_wp2_with fail
      refine (HFl.out w1 (RowAt.to HA.out Hb1.out) (RowAt.to HF.out Hb1.out)).mono ?_
      rintro e w2 ⟨rfl, hb2⟩
      have Hb2 := Lib.hid (bthen (bthen Hb0.out Hb1.out) hb2); clear hb2
      go_wp2_with fail
      go_ret2
      exact ⟨_, by rw [He.out.1, Hr.out.1]; rfl, by rw [He.out.2, Hr.out.2]; exact OwnV.nil _ _, Hb2.out⟩
  · have He : Hid (setE t vs l = rowT t vs ∧ setR t vs l = []) := by show _ ∧ _; unfold setE setR; rw [if_neg hz, if_neg hz]; exact ⟨rfl, rfl⟩
    obtain ⟨z, hzz⟩ : ∃ z, rowT t vs = z := ⟨_, rfl⟩
    rw [hzz] at HQ He hz
    clear hzz
    have hz0 : (z == 0) = false := by simpa using hz
    have hz1 : (z != 0) = true := by rw [neq_int, hz0]; rfl
    clear hz
    go_enter Tryd.func42, Tryd.ntmps42
    go_wp2_with fail
    refine HQ.out.mono ?_
    rintro e w1 ⟨rfl, hb1⟩
    rw [Hw0.out] at hb1
    have Hb1 := Lib.hid (bthen Hb0.out hb1); clear hb1
    go_wp2_with fail
    go_ret2
    exact ⟨_, by rw [He.out.1]; rfl, by rw [He.out.2]; exact OwnV.nil _ _, Hb1.out⟩
end Go.Proofs.YtmcgcanpaffggaaDoor
