/-
  SchemaSets: for every table, every row and all fields the law returns true: the row with the fields' values, or why there is none, is what the page says; its key stays; the row that came in is as it was. No condition but that the two tables of package utf read as the program's text lays them (tied by the card).
-/
import Derived.Test.YtmcgcanpaffggaaDoorSchRefFillC
import Derived.Test.YtmcgcanpaffggaaDoorSchFew2C
import Derived.Test.YtmcgcanpaffggaaDoorTie
import Derived.Test.YtmcgcanpaffggaaDoorCards
import Derived.ProofKit
import Derived.OpenShut
import Derived.ShutString
import Derived.ChangeOld
import Derived.LaidMore
import Derived.SevenTiedAt
import Derived.Test.YtmcgcanpaffggaaDoorPart1
import Derived.Test.YtmcgcanpaffggaaDoorPart2
import Derived.Test.YtmcgcanpaffggaaDoorPart3
namespace Go.Proofs.YtmcgcanpaffggaaDoor.schemaSets
open Go.ChangeShapes Go.WideShapes Go.ChangeAt Go.RowKit
open Go.ChangeMaps (open_string shut_string)

theorem fewF_len {l : List Fb} (h : fewF l = true) : l.length ≤ 20 := by
  unfold fewF at h
  simp only [Bool.and_eq_true, decide_eq_true_eq] at h
  omega
theorem eql_z (z : Int) : (z == z) = true := by simp
theorem neq_z (z : Int) : (z != z) = false := by simp
theorem updR_other {t : Tb} {q : Nat} : ∀ {l : List Fb} {vs : List Vb}, (∀ f ∈ l, (colI t f.nm).getD 0 ≠ q) → (updR t vs l)[q]? = vs[q]? := by
  intro l
  unfold updR
  induction l with
  | nil => intro vs _; rfl
  | cons f l ih =>
    intro vs h
    rw [List.foldl_cons, ih (fun g hg => h g (List.mem_cons_of_mem _ hg)), List.getElem?_set_ne (h f List.mem_cons_self)]
theorem set_len (t : Tb) (vs : List Vb) (l : List Fb) : (setR t vs l).length ≤ vs.length := by
  unfold setR replR
  split
  · split
    · rw [updR_length]; exact Nat.le_refl _
    · simp
  · simp
theorem set_bad {t : Tb} {vs : List Vb} {l : List Fb} (h : setE t vs l ≠ 0) : setR t vs l = [] := by
  unfold setE at h
  unfold setR
  by_cases hr : rowT t vs = 0
  · rw [if_pos hr] at h
    rw [if_pos hr]
    unfold replR
    rw [if_neg h]
  · rw [if_neg hr]
/-- where it is done, the key's value is as it was -/
theorem set_key {t : Tb} {vs : List Vb} {l : List Fb} (h : setE t vs l = 0) : ∃ q v, keyI t = some q ∧ q < t.cols.length ∧ vs.length = t.cols.length ∧ (setR t vs l).length = t.cols.length ∧ vs[q]? = some v ∧ (setR t vs l)[q]? = some v := by
  by_cases hr : rowT t vs = 0
  · obtain ⟨q, hq⟩ := key_some (rowT_fits hr).1
    have hlen := (rowT_fits hr).2
    have hql : q < t.cols.length := find_lt hq
    unfold setE at h
    rw [if_pos hr, hq] at h
    have hR : setR t vs l = replR t vs l (q : Int) := by unfold setR; rw [if_pos hr, hq]; rfl
    have h' : replE t vs l (q : Int) = 0 := h
    by_cases hl : limE t l (q : Int) = 0
    · have h2 := (repl_two (vs := vs)).2 hl
      rw [h2.1] at h'
      have hU : setR t vs l = updR t vs l := by rw [hR, h2.2]; unfold withR; rw [if_pos h']
      have hk : (updR t vs l)[q]? = vs[q]? := updR_other fun f hf e => by
        obtain ⟨j, hj⟩ := List.mem_iff_getElem?.1 hf
        have h0 := fldsE_all (limE_0 hl).2 j f hj
        obtain ⟨q', hq'⟩ := fldE_col h0
        rw [hq'] at e
        have e' : q' = q := e
        cases hfd : ((l.take j).findIdx? fun g => eqS g.nm f.nm).isSome with
        | true => rw [fldE_14 hq' hfd] at h0; cases h0
        | false => rw [fldE_15 hq' hfd (by rw [e'])] at h0; cases h0
      refine ⟨q, vs[q]'(by omega), hq, hql, hlen, by rw [hU, updR_length, hlen], by simp [show q < vs.length by omega], ?_⟩
      rw [hU, hk]
      simp [show q < vs.length by omega]
    · have h2 := (repl_two (vs := vs)).1 hl
      rw [h2.1] at h'
      exact absurd h' hl
  · unfold setE at h
    rw [if_neg hr] at h
    exact absurd h hr
set_option maxRecDepth 100000 in
set_option maxHeartbeats 12800000 in
theorem walk_t (t : Tb) (A : Option Addr) (cp : Nat) (vs : List Vb) (Al : Option Addr) (cl : Nat) (l : List Fb) (w : World) (hin : InT w t) (hrow : RowIn w A cp vs) (hfl : FldsIn w Al cl l) (ht : UTab w) :
    Calls Tryd.prog 7 #[TV t, .slice A vs.length cp, .slice Al l.length cl] w fun e w' => e = .returned (.bool true) ∧ Below w.heap.size w w' := by
  obtain ⟨w0, hw0, hb0, hB, hs0⟩ := box_tab w t
  have Hw0 := Lib.hid hw0; clear hw0
  have Hb0 := Lib.hid hb0
  have HA := Lib.hid (RowAt.to hin.2.2.2.2.2.2.1 hb0)
  have HF := Lib.hid (RowAt.to hfl.2.2.1 hb0)
  have HR := Lib.hid (hrow.2.2.1.to hb0)
  have HT := Lib.hid (ht.below hb0 (Nat.le_refl _)); clear ht hb0
  have HB := Lib.hid hB; clear hB
  have Hs0 := Lib.hid hs0; clear hs0
  have HIn := Lib.hid hin; clear hin
  have HFl := Lib.hid hfl; clear hfl
  have HRow := Lib.hid hrow; clear hrow
  have HLv := Lib.hid (lives8_any w0 HT.out)
  rw [← Hw0.out] at HLv
  have HF1 := Lib.hid (fun w' hA' => few8_any t w' hA' HIn.out.2.2.2.2.1)
  have HF2 := Lib.hid (fun w' hA' => fewv_any A cp vs w' hA' HRow.out.1)
  have HF3 := Lib.hid (fun w' hA' => fewf_any Al cl l w' hA' HFl.out.1)
  cases hf : fewT t
  · rw [hf] at HF1
    clear hf
    go_enter Tryd.func7, Tryd.ntmps7
    go_wp2_with fail
    refine HLv.out.mono ?_
    rintro e w1 ⟨rfl, hb1⟩
    rw [Hw0.out] at hb1
    have Hb1 := Lib.hid hb1; clear hb1
    obtain ⟨c0, c1, c2, c3, c4⟩ := (HB.out.below Hb1.out (by have := Hs0.out; omega)).tab
    go_wp2_with fail
    refine (HF1.out w1 (RowAt.to HA.out Hb1.out)).mono ?_
    rintro e w2 ⟨rfl, hb2⟩
    have Hb2 := Lib.hid (bthen Hb1.out hb2); clear hb2
    clear c0 c1 c2 c3 c4
    go_wp2_with fail
    go_ret
    exact ⟨rfl, bthen Hb0.out Hb2.out⟩
  rw [hf] at HF1
  cases hf2 : fewV vs
  · rw [hf2] at HF2
    clear hf hf2
    go_enter Tryd.func7, Tryd.ntmps7
    go_wp2_with fail
    refine HLv.out.mono ?_
    rintro e w1 ⟨rfl, hb1⟩
    rw [Hw0.out] at hb1
    have Hb1 := Lib.hid hb1; clear hb1
    obtain ⟨c0, c1, c2, c3, c4⟩ := (HB.out.below Hb1.out (by have := Hs0.out; omega)).tab
    go_wp2_with fail
    refine (HF1.out w1 (RowAt.to HA.out Hb1.out)).mono ?_
    rintro e w2 ⟨rfl, hb2⟩
    have Hb2 := Lib.hid (bthen Hb1.out hb2); clear hb2
    clear c0 c1 c2 c3 c4
    go_wp2_with fail
    refine (HF2.out w2 (HR.out.to Hb2.out)).mono ?_
    rintro e w3 ⟨rfl, hb3⟩
    have Hb3 := Lib.hid (bthen Hb2.out hb3); clear hb3
    go_wp2_with fail
    go_ret
    exact ⟨rfl, bthen Hb0.out Hb3.out⟩
  rw [hf2] at HF2
  cases hf3 : fewF l
  · rw [hf3] at HF3
    clear hf hf2 hf3
    go_enter Tryd.func7, Tryd.ntmps7
    go_wp2_with fail
    refine HLv.out.mono ?_
    rintro e w1 ⟨rfl, hb1⟩
    rw [Hw0.out] at hb1
    have Hb1 := Lib.hid hb1; clear hb1
    obtain ⟨c0, c1, c2, c3, c4⟩ := (HB.out.below Hb1.out (by have := Hs0.out; omega)).tab
    go_wp2_with fail
    refine (HF1.out w1 (RowAt.to HA.out Hb1.out)).mono ?_
    rintro e w2 ⟨rfl, hb2⟩
    have Hb2 := Lib.hid (bthen Hb1.out hb2); clear hb2
    clear c0 c1 c2 c3 c4
    go_wp2_with fail
    refine (HF2.out w2 (HR.out.to Hb2.out)).mono ?_
    rintro e w3 ⟨rfl, hb3⟩
    have Hb3 := Lib.hid (bthen Hb2.out hb3); clear hb3
    go_wp2_with fail
    refine (HF3.out w3 (RowAt.to HF.out Hb3.out)).mono ?_
    rintro e w4 ⟨rfl, hb4⟩
    have Hb4 := Lib.hid (bthen Hb3.out hb4); clear hb4
    go_wp2_with fail
    go_ret
    exact ⟨rfl, bthen Hb0.out Hb4.out⟩
  rw [hf3] at HF3
  have hll : l.length ≤ 20 := fewF_len hf3
  have hvl := fewV_len hf2
  have HW := Lib.hid (WfT_of hf HIn.out)
  have H64 : Hid (F64 l) := fun f hf => wf64 (HFl.out.2.2.2 f hf).2.2.1
  have H64v : Hid (In64 vs) := fun v hv => wf64 (HRow.out.2.2.2 v hv).2.1
  clear hf hf2 hf3
  have HQ1 := Lib.hid (fun w' ht' hA' hR' hF' => sset_any t A cp vs Al cl l w' ht' HW.out hA' hR' HRow.out.2.1 (by omega) hF' HFl.out.2.1)
  have HQ2 := Lib.hid (fun w' hA' hR' hF' => rset_any t A cp vs Al cl l w' HW.out hA' hR' HRow.out.2.1 (by omega) H64v.out hF' (by omega) H64.out)
  have Hlen : Hid ((setR t vs l).length ≤ 1000000) := by show _ ≤ _; have := set_len t vs l; omega
  by_cases hz : setE t vs l = 0
  · obtain ⟨q, v, hq, hql, hvs, hus, hv, hu⟩ := set_key hz
    rw [hz] at HQ1 HQ2
    have Hq := Lib.hid hq
    have Hvs := Lib.hid hvs
    have Hus := Lib.hid hus
    have Hv := Lib.hid hv
    have Hu := Lib.hid hu
    clear hz hq hvs hus hv hu
    go_enter Tryd.func7, Tryd.ntmps7
    go_wp2_with fail
    refine HLv.out.mono ?_
    rintro e w1 ⟨rfl, hb1⟩
    rw [Hw0.out] at hb1
    have Hb1 := Lib.hid hb1; clear hb1
    obtain ⟨c0, c1, c2, c3, c4⟩ := (HB.out.below Hb1.out (by have := Hs0.out; omega)).tab
    go_wp2_with fail
    refine (HF1.out w1 (RowAt.to HA.out Hb1.out)).mono ?_
    rintro e w2 ⟨rfl, hb2⟩
    have Hb2 := Lib.hid (bthen Hb1.out hb2); clear hb2
    clear c0 c1 c2 c3 c4
    go_wp2_with fail
    refine (HF2.out w2 (HR.out.to Hb2.out)).mono ?_
    rintro e w3 ⟨rfl, hb3⟩
    have Hb3 := Lib.hid (bthen Hb2.out hb3); clear hb3
    go_wp2_with fail
    refine (HF3.out w3 (RowAt.to HF.out Hb3.out)).mono ?_
    rintro e w4 ⟨rfl, hb4⟩
    have Hb4 := Lib.hid (bthen Hb3.out hb4); clear hb4
    have HO4' := Lib.hid (OwnV.lit0 w4 w0.heap.size Hb4.out.size)
    have HR4 := Lib.hid ((HR.out.to Hb4.out).to (below_one w4 (.cells #[] 35)))
    have HbL := Lib.hid (bthen Hb4.out (below_one w4 (.cells #[] 35)))
    go_wp2_with (at_builtin; refine wpList_append_vals rfl _ _ rfl w0.heap.size _ [] A _ cp vs HO4'.out (by simp [Act.eval]) rfl rfl HRow.out.2.1 HR4.out (by simp; omega) HbL.out.size ?_; intro v5 w5 ho5 hb5; have Hb5 := Lib.hid (HbL.out.trans hb5); obtain ⟨c0, c1, c2, c3, c4⟩ := (HB.out.below Hb5.out (by have := Hs0.out; omega)).tab)
    have HO5 : Hid (OwnV w5 w0.heap.size v5 vs) := ho5
    clear ho5 hb5 HO4' HR4
    refine (HQ1.out w5 (HT.out.below Hb5.out (Nat.le_refl _)) (RowAt.to HA.out Hb5.out) (HR.out.to Hb5.out) (RowAt.to HF.out Hb5.out)).mono ?_
    rintro e w6 ⟨v6, rfl, ho6, hb6⟩
    have HO56 := Lib.hid (HO5.out.below hb6)
    have HO6 := Lib.hid ho6
    have Hb6 := Lib.hid (bthen Hb5.out hb6); clear hb6 ho6
    clear c0 c1 c2 c3 c4
    obtain ⟨c0, c1, c2, c3, c4⟩ := (HB.out.below Hb6.out (by have := Hs0.out; omega)).tab
    go_wp2_with fail
    refine (HQ2.out w6 (RowAt.to HA.out Hb6.out) (HR.out.to Hb6.out) (RowAt.to HF.out Hb6.out)).mono ?_
    rintro e w7 ⟨v7, rfl, ho7, hb7⟩
    have HO57 := Lib.hid (HO56.out.below hb7)
    have HO67 := Lib.hid (HO6.out.below hb7)
    have Hb7 := Lib.hid (bthen Hb6.out hb7)
    obtain ⟨A5, p5, rfl, hA5⟩ := ValsAt.of_own HO57.out
    obtain ⟨A6, p6, rfl, hA6⟩ := ValsAt.of_own HO67.out
    obtain ⟨A7, p7, rfl, hA7⟩ := ValsAt.of_own ho7
    have HS := Lib.hid (rsamev_any A6 A7 p6 p7 (setR t vs l) (setR t vs l) w7 hA6 hA7 Hlen.out Hlen.out)
    rw [pair_self eqV_self] at HS
    have HA5 := Lib.hid hA5
    have HA6 := Lib.hid hA6
    clear hb7 ho7 hA5 hA6 hA7
    clear c0 c1 c2 c3 c4
    go_wp2_with fail
    refine HS.out.mono ?_
    rintro e w8 ⟨rfl, hb8⟩
    have Hb8 := Lib.hid (bthen Hb7.out hb8)
    have HA68 := Lib.hid (HA6.out.to hb8)
    have HS2 := Lib.hid (rsamev_any A5 A p5 cp vs vs w8 (HA5.out.to hb8) (HR.out.to Hb8.out) (by omega) (by omega))
    rw [pair_self eqV_self] at HS2
    clear hb8
    go_wp2_with fail
    refine HS2.out.mono ?_
    rintro e w9 ⟨rfl, hb9⟩
    have Hb9 := Lib.hid (bthen Hb8.out hb9)
    have HA69 := Lib.hid (HA68.out.to hb9)
    clear hb9
    obtain ⟨c0, c1, c2, c3, c4⟩ := (HB.out.below Hb9.out (by have := Hs0.out; omega)).tab
    have HK : Hid (Calls Tryd.prog 25 #[TV t] w9 fun e w' => e = .returned (.tuple #[.int .i64 (q : Int), .bool true]) ∧ Below w9.heap.size w9 w') := by
      have := skey_any t w9 (RowAt.to HA.out Hb9.out) HW.out.2.1
      rw [show (t.cols.findIdx? fun c => c.id == t.key) = some q from Hq.out] at this
      exact this
    go_wp2_with fail
    refine HK.out.mono ?_
    rintro e w10 ⟨rfl, hb10⟩
    have Hb10 := Lib.hid (bthen Hb9.out hb10)
    have hA610 := HA69.out.to hb10
    obtain ⟨b6, off6, rfl, hbB6, f6⟩ := hA610 (by have := Hus.out; omega)
    obtain ⟨x0, x1, x2⟩ := f6 q v Hu.out
    obtain ⟨b2, off2, rfl, hbB2, f2⟩ := (HR.out.to Hb10.out) (by have := Hvs.out; omega)
    obtain ⟨y0, y1, y2⟩ := f2 q v Hv.out
    clear hb10 f6 f2 hA610
    clear c0 c1 c2 c3 c4
    have hne : Nonempty (BelowBy w10.heap.size w10) := ⟨⟨w10, Below.refl _ _⟩⟩
    have X0 : ∀ p : BelowBy w10.heap.size w10, p.x.cell? ⟨b6, off6 + q * 3, none⟩ = some (.int .i64 v.1) := fun p => (p.h.cell hbB6).trans x0
    have X1 : ∀ p : BelowBy w10.heap.size w10, p.x.cell? ⟨b6, off6 + q * 3 + 1, none⟩ = some (.int .i64 v.2.1) := fun p => (p.h.cell hbB6).trans x1
    have X2 : ∀ p : BelowBy w10.heap.size w10, p.x.cell? ⟨b6, off6 + q * 3 + 2, none⟩ = some (.string v.2.2) := fun p => (p.h.cell hbB6).trans x2
    have Y0 : ∀ p : BelowBy w10.heap.size w10, p.x.cell? ⟨b2, off2 + q * 3, none⟩ = some (.int .i64 v.1) := fun p => (p.h.cell hbB2).trans y0
    have Y1 : ∀ p : BelowBy w10.heap.size w10, p.x.cell? ⟨b2, off2 + q * 3 + 1, none⟩ = some (.int .i64 v.2.1) := fun p => (p.h.cell hbB2).trans y1
    have Y2 : ∀ p : BelowBy w10.heap.size w10, p.x.cell? ⟨b2, off2 + q * 3 + 2, none⟩ = some (.string v.2.2) := fun p => (p.h.cell hbB2).trans y2
    clear x0 x1 x2 y0 y1 y2
    have qe : ∀ w, (binOp .eql 35 (VV v.1 v.2.1 v.2.2) (VV v.1 v.2.1 v.2.2)).run Tryd.prog w = .ok (.bool (eqV v v)) w := fun w => run_eql_V w _ _ _ _ _ _
    rw [eqV_self] at qe
    have hq0 : (0 : Int) ≤ (q : Int) := by omega
    have hq1 : (q : Int) < ((setR t vs l).length : Int) := by have := Hus.out; omega
    have hq1d : decide ((q : Int) < ((setR t vs l).length : Int)) = true := by simp; have := Hus.out; omega
    have hq2 : (q : Int) < (vs.length : Int) := by have := Hvs.out; omega
    go_wp2_with fail
    refine wp_region_below w10.heap.size (by kernel_rfl) (by kernel_rfl) ?_
    repeat (
      with_reducible refine wpQuiet_step (fun K hK => ?_)
      go_simp
      refine hK _ ?_
      clear hK K)
    refine wpQuiet_nil ?_
    rintro _ ⟨p, rfl⟩
    go_wp2_with fail
    go_ret
    exact ⟨rfl, bthen (bthen Hb0.out Hb10.out) p.h⟩
  · have Hnil := Lib.hid (set_bad hz)
    obtain ⟨z, hzz⟩ : ∃ z, setE t vs l = z := ⟨_, rfl⟩
    rw [hzz] at HQ1 HQ2 hz
    clear hzz
    have hz0 : (z == 0) = false := by simpa using hz
    have hz1 : (z != 0) = true := by rw [neq_int, hz0]; rfl
    have hzs := neq_z z
    have hze := eql_z z
    have Hl0 : Hid ((setR t vs l).length = 0) := by show _ = _; rw [Hnil.out]; rfl
    clear hz
    go_enter Tryd.func7, Tryd.ntmps7
    go_wp2_with fail
    refine HLv.out.mono ?_
    rintro e w1 ⟨rfl, hb1⟩
    rw [Hw0.out] at hb1
    have Hb1 := Lib.hid hb1; clear hb1
    obtain ⟨c0, c1, c2, c3, c4⟩ := (HB.out.below Hb1.out (by have := Hs0.out; omega)).tab
    go_wp2_with fail
    refine (HF1.out w1 (RowAt.to HA.out Hb1.out)).mono ?_
    rintro e w2 ⟨rfl, hb2⟩
    have Hb2 := Lib.hid (bthen Hb1.out hb2); clear hb2
    clear c0 c1 c2 c3 c4
    go_wp2_with fail
    refine (HF2.out w2 (HR.out.to Hb2.out)).mono ?_
    rintro e w3 ⟨rfl, hb3⟩
    have Hb3 := Lib.hid (bthen Hb2.out hb3); clear hb3
    go_wp2_with fail
    refine (HF3.out w3 (RowAt.to HF.out Hb3.out)).mono ?_
    rintro e w4 ⟨rfl, hb4⟩
    have Hb4 := Lib.hid (bthen Hb3.out hb4); clear hb4
    have HO4' := Lib.hid (OwnV.lit0 w4 w0.heap.size Hb4.out.size)
    have HR4 := Lib.hid ((HR.out.to Hb4.out).to (below_one w4 (.cells #[] 35)))
    have HbL := Lib.hid (bthen Hb4.out (below_one w4 (.cells #[] 35)))
    go_wp2_with (at_builtin; refine wpList_append_vals rfl _ _ rfl w0.heap.size _ [] A _ cp vs HO4'.out (by simp [Act.eval]) rfl rfl HRow.out.2.1 HR4.out (by simp; omega) HbL.out.size ?_; intro v5 w5 ho5 hb5; have Hb5 := Lib.hid (HbL.out.trans hb5); obtain ⟨c0, c1, c2, c3, c4⟩ := (HB.out.below Hb5.out (by have := Hs0.out; omega)).tab)
    have HO5 : Hid (OwnV w5 w0.heap.size v5 vs) := ho5
    clear ho5 hb5 HO4' HR4
    refine (HQ1.out w5 (HT.out.below Hb5.out (Nat.le_refl _)) (RowAt.to HA.out Hb5.out) (HR.out.to Hb5.out) (RowAt.to HF.out Hb5.out)).mono ?_
    rintro e w6 ⟨v6, rfl, ho6, hb6⟩
    have HO56 := Lib.hid (HO5.out.below hb6)
    have HO6 := Lib.hid ho6
    have Hb6 := Lib.hid (bthen Hb5.out hb6); clear hb6 ho6
    clear c0 c1 c2 c3 c4
    obtain ⟨c0, c1, c2, c3, c4⟩ := (HB.out.below Hb6.out (by have := Hs0.out; omega)).tab
    go_wp2_with fail
    refine (HQ2.out w6 (RowAt.to HA.out Hb6.out) (HR.out.to Hb6.out) (RowAt.to HF.out Hb6.out)).mono ?_
    rintro e w7 ⟨v7, rfl, ho7, hb7⟩
    have HO57 := Lib.hid (HO56.out.below hb7)
    have HO67 := Lib.hid (HO6.out.below hb7)
    have Hb7 := Lib.hid (bthen Hb6.out hb7)
    obtain ⟨A5, p5, rfl, hA5⟩ := ValsAt.of_own HO57.out
    obtain ⟨A6, p6, rfl, hA6⟩ := ValsAt.of_own HO67.out
    obtain ⟨A7, p7, rfl, hA7⟩ := ValsAt.of_own ho7
    have HS := Lib.hid (rsamev_any A6 A7 p6 p7 (setR t vs l) (setR t vs l) w7 hA6 hA7 Hlen.out Hlen.out)
    rw [pair_self eqV_self] at HS
    have HA5 := Lib.hid hA5
    have HA6 := Lib.hid hA6
    clear hb7 ho7 hA5 hA6 hA7
    clear c0 c1 c2 c3 c4
    go_wp2_with fail
    refine HS.out.mono ?_
    rintro e w8 ⟨rfl, hb8⟩
    have Hb8 := Lib.hid (bthen Hb7.out hb8)
    have HA68 := Lib.hid (HA6.out.to hb8)
    have HS2 := Lib.hid (rsamev_any A5 A p5 cp vs vs w8 (HA5.out.to hb8) (HR.out.to Hb8.out) (by omega) (by omega))
    rw [pair_self eqV_self] at HS2
    clear hb8
    go_wp2_with fail
    refine HS2.out.mono ?_
    rintro e w9 ⟨rfl, hb9⟩
    have Hb9 := Lib.hid (bthen Hb8.out hb9)
    have HA69 := Lib.hid (HA68.out.to hb9)
    clear hb9
    have hl0 := Hl0.out
    go_wp2_with fail
    go_ret
    exact ⟨rfl, bthen Hb0.out Hb9.out⟩
theorem walk (t : Tb) (A : Option Addr) (cp : Nat) (vs : List Vb) (Al : Option Addr) (cl : Nat) (l : List Fb) (w : World) (hin : InT w t) (hrow : RowIn w A cp vs) (hfl : FldsIn w Al cl l) (hL : laidMetH Tryd.prog Rows.schemaSetsRow.laid w) :
    Calls Tryd.prog 7 #[TV t, .slice A vs.length cp, .slice Al l.length cl] w fun e w' => e = .returned (.bool true) ∧ Below w.heap.size w w' :=
  walk_t t A cp vs Al cl l w hin hrow hfl (utab_of (by kernel_rfl) (by repeat (first | exact List.Mem.head _ | apply List.Mem.tail)) (by repeat (first | exact List.Mem.head _ | apply List.Mem.tail)) hL)
theorem own : ownKnob Tryd.prog.godebug = none := by kernel_rfl
theorem laidOut : laidOutB Tryd.prog = true := by kernel_rfl
theorem door_met (os : Os) (args : Array Value) : laidMetH Tryd.prog Rows.schemaSetsRow.laid ((World.doorLaid Tryd.prog 19 os).forCall (fun _ _ => 0) ⟨#[], args, []⟩).memory :=
  laidMetH_of_parts3 (fuel := 8) (laidMet_of_run' 8 (by kernel_rfl) (by kernel_rfl)) (by kernel_rfl) (by kernel_rfl)
set_option maxRecDepth 100000 in
theorem lifted (os : Os) (started : os.Started) (H : Type) (enc : TypeId × Value → H) :
    ReturnsInHanded {} Tryd.checked os 7 .any (fun w args => (Rows.schemaSetsSpec.pre enc Tryd.prog Tryd.f7 [] false w args ∧ laidMetH Tryd.prog Rows.schemaSetsRow.laid w) ∧ sizedMet enc Tryd.prog Tryd.f7 (OpenSpec.ofChange Rows.schemaSetsSpec) false w args)
      (Rows.schemaSetsSpec.post enc Tryd.prog Tryd.f7 false true false false) := by
  refine returnsInHanded_of_change_and (C := Tryd.checked) (X := fun w _ => laidMetH Tryd.prog Rows.schemaSetsRow.laid w) (fun _ _ _ hh h => h.of_heap hh) own started (by kernel_rfl) Tryd.func7
    (ChangeSpec.witness_shaped (enc := enc) (C := Tryd.checked) (os := os) (X := fun w _ => laidMetH Tryd.prog Rows.schemaSetsRow.laid w) false (World.doorLaid Tryd.prog 19 os) #[.agg #[.int .i64 0, .string ByteArray.empty, .int .i64 0, .int .i64 0, .slice none 0 0], .slice none 0 0, .slice none 0 0] 8 rfl (World.shaped_of_RefB (by kernel_rfl) (by kernel_rfl)) (by kernel_rfl) (by kernel_rfl) (by kernel_rfl) (door_met os _)) ?_
  intro W base args ds gs before hval0 hW hcnd _ hL _
  have hval : ∀ (j : Nat) t v, Tryd.f7.params[j]? = some t → args[j]? = some v → Value.okWide Tryd.prog W .any base t v := hval0
  have hW' := hW
  obtain ⟨p, q, hA0, hV, rfl, hfz, hnd⟩ := hW
  have hA : DataW.TrodAll enc Tryd.prog W 0 (fun _ => true) true Tryd.f7.params.toList args.toList ds p := hA0
  rw [Tryd.params7] at hA hval
  obtain ⟨v0, vs0, d0, ds0, p0, q0, hargs, rfl, rfl, h0, r0⟩ := trodAll_cons hA
  obtain ⟨v1, vs1, d1, ds1, p1, q1, rfl, rfl, rfl, h1, r1⟩ := trodAll_cons r0
  obtain ⟨v2, vs2, d2, ds2, p2, q2, rfl, rfl, rfl, h2, r2⟩ := trodAll_cons r1
  obtain ⟨rfl, rfl, rfl⟩ := trodAll_nil r2
  obtain rfl : args = #[v0, v1, v2] := by cases args; simp_all
  obtain ⟨rfl, rfl⟩ := trodVars_none hV
  have k0 := h0
  have lt0 : ∀ x ∈ p0, x.block < W.heap.size := by obtain ⟨m, hm⟩ := k0; exact DataW.trod_lt m _ _ _ hm
  obtain ⟨t0, rfl, w0⟩ := openTab (hval 0 29 v0 rfl rfl) h0
  obtain ⟨a1, len1, cap1, rfl⟩ := okWide_slice Tryd.underlying52 (hval 1 52 v1 rfl rfl)
  have k1 := h1
  have lt1 : ∀ x ∈ p1, x.block < W.heap.size := by obtain ⟨m, hm⟩ := k1; exact DataW.trod_lt m _ _ _ hm
  obtain ⟨l1, rfl, w1⟩ := openRow h1
  obtain ⟨a2, len2, cap2, rfl⟩ := okWide_slice Tryd.underlying63 (hval 2 63 v2 rfl rfl)
  have k2 := h2
  have lt2 : ∀ x ∈ p2, x.block < W.heap.size := by obtain ⟨m, hm⟩ := k2; exact DataW.trod_lt m _ _ _ hm
  obtain ⟨l2, rfl, w2⟩ := openFlds h2
  clear hA0 hval0
  refine (walk t0 a1 cap1 l1 a2 cap2 l2 W w0 w1 w2 hL).mono fun e W' ⟨he, bel⟩ => ?_
  subst he
  exact ⟨_, rfl, _, _, _, [], _, [], hW', trodAll_mk1 (shut_bool Tryd.underlying4 _), (trodAll_cons_mk (Below.trod laidOut (by kernel_rfl) (of_decide_eq_true (by kernel_rfl)) k0 bel lt0) (trodAll_cons_mk (Below.trod laidOut (by kernel_rfl) (of_decide_eq_true (by kernel_rfl)) k1 bel lt1) (trodAll_cons_mk (Below.trod laidOut (by kernel_rfl) (of_decide_eq_true (by kernel_rfl)) k2 bel lt2) trodAll_mk0))), rfl, bel.frame _, fun h => by cases h⟩

theorem over : Rows.SchemaSetsSaid :=
  OpenClaim.holds_of_wide 7 Tryd.f7 rfl rfl rfl rfl rfl rfl rfl ⟨rfl, rfl, rfl, rfl, rfl⟩ rfl rfl rfl rfl rfl (by kernel_rfl) Tryd.func7 (by kernel_rfl)
    (of_decide_eq_true (by kernel_rfl)) (by unfold Func.isWrapper; first | (rw [if_pos (by decide +kernel)]; kernel_rfl) | (rw [if_neg (by decide +kernel)]; exact ⟨rfl, rfl⟩))
    (fun os started H enc _ => lifted os started H enc)

/-- the given statement: the card -/
theorem proved : Rows.SchemaSetsCardSaid :=
  Claim7.holds_tied_plain_at .later [] [.data, .data] true (true, "8a3afc4f22ed179eb0e7e12e38245cf003443ba904eea1b9a5bcb5b530c2a6ef") false
    over (fun _ h => by cases h) (by kernel_rfl) (fun _ h => by cases h) schemaSets_row_tie rfl ⟨rfl, rfl⟩ (by kernel_rfl) rfl
    (fun f fn hf hfn => by
      obtain rfl : f = 7 := Option.some.inj ((show Tryd.prog.funcNamed "haulage/haulagelaw08.SchemaSets" = some 7 by kernel_rfl).symm.trans hf) |>.symm
      obtain rfl : fn = Tryd.f7 := (Option.some.inj (Tryd.func7.symm.trans hfn)).symm
      exact ⟨by kernel_rfl, fun j t ht => by
        rw [Tryd.params7] at ht
        have hm : t ∈ [29, 52, 63] := by simpa using Array.mem_of_getElem? ht
        have hall : ([29, 52, 63].all fun u => !Tryd.prog.wantsStandIn u) = true := by kernel_rfl
        exact (show Tryd.prog.wantsStandIn t = false by simpa using List.all_eq_true.1 hall t hm)⟩)
    (by kernel_rfl)
#print axioms proved
end Go.Proofs.YtmcgcanpaffggaaDoor.schemaSets
