/-
  The document's own Apply of layer 9: a table or a column, changed.
-/
import Derived.Test.YthmjgaekcghonaaGreatDoorPart1
import Derived.Test.YthmjgaekcghonaaGreatDoorPart2
import Derived.Test.YthmjgaekcghonaaGreatDoorPart3
import Derived.Test.YthmjgaekcghonaaGreatDoorPart4
import Derived.Test.YthmjgaekcghonaaGreatDoorPart5
import Derived.Test.YthmjgaekcghonaaGreatDoorPart6
import Derived.Test.YthmjgaekcghonaaGreatDoorPart7
import Derived.Test.YthmjgaekcghonaaGreatDoorPart8
import Derived.Test.YthmjgaekcghonaaGreatDoorPart9
import Derived.Test.YthmjgaekcghonaaGreatDoorPart10
import Derived.Test.YthmjgaekcghonaaGreatDoorPart11
namespace Go.Proofs.YthmjgaekcghonaaGreatDoor
open Go.RowKit

set_option maxRecDepth 100000 in
set_option maxHeartbeats 12800000 in
theorem rapply_other (A : Option Addr) (cp : Nat) (l : List Tb) (d : Db) (id : Int) (w : World) (hA : TabsAt w w.heap.size A l) (hw : ∀ t ∈ l, WfT t) (hl : l.length ≤ 1000000) (hD : DdlAt w w.heap.size d) (hd : WfD d.p) (hr : rightCat l = true) (hp : plainD d.p = true) (hid : 0 ≤ id) (e1 : d.p.op ≠ 1) :
    Calls Tryz.prog 9 #[.agg #[.slice A l.length cp], DV d, .int .i64 id] w fun e w' => ApplyEnd (l.map Tb.p) d.p id w e w' := by
  have E1 := Lib.hid e1; clear e1
  have Hr := Lib.hid hr; clear hr
  have Hpl := Lib.hid hp; clear hp
  obtain ⟨w0, hw0, hb0, hC, hX, hR, hO, hs0⟩ := box_app w (.slice A l.length cp) d
  have Hw0 := Lib.hid hw0; clear hw0
  have HbW := Lib.hid hb0
  have HL2 : Hid (TabsAt w0 w.heap.size A l) := hA.below hb0
  have HD2 : Hid (ColsAt w0 w.heap.size d.A d.p.cols) := RowAt.below hD hb0
  have HL := Lib.hid (hA.to hb0); clear hA
  have HD := Lib.hid (RowAt.to hD hb0); clear hD hb0
  have HC := Lib.hid hC; clear hC
  have HX := Lib.hid hX; clear hX
  have HR := Lib.hid hR; clear hR
  have HO := Lib.hid hO; clear hO
  have Hs0 := Lib.hid hs0; clear hs0
  have HW := Lib.hid hw; clear hw
  have Hd := Lib.hid hd; clear hd
  have Hput : Hid (∀ (X : World) (v : Value), Below w0.heap.size w0 X → Below w.heap.size w (X.setCell ⟨w.heap.size + 1 + 1, 0, none⟩ v)) := fun X v hX => bput (bthen HbW.out hX) (by omega) 0 v
  have HRes : Hid (∀ X, Below w0.heap.size w0 X → X.cell? ⟨w.heap.size + 1 + 1, 0, none⟩ = some (.slice none 0 0) ∧ X.frozen? ⟨w.heap.size + 1 + 1, 0, none⟩ = false ∧ X.cell? ⟨w.heap.size + 1 + 1 + 1, 0, none⟩ = some (.slice none 0 0)) := fun X hX =>
    ⟨(HR.out.below hX (by have := Hs0.out; omega)).cell, (HR.out.below hX (by have := Hs0.out; omega)).frozen, (HO.out.below hX (by have := Hs0.out; omega)).cell⟩
  go_enter Tryz.func9, Tryz.ntmps9
  go_wp2_with fail
  try rw [Hw0.out]
  refine (rrcat_any A cp l w0 (HL.out.to (Below.refl _ _)) HW.out hl).mono ?_
  rintro e w1 ⟨rfl, hb⟩
  have Hb1 := Lib.hid hb
  clear hb
  try clear c0
  have c0 := (HC.out.below Hb1.out (by have := Hs0.out; omega)).one
  try clear x0 x1 x2 x3 x4 x5 x6 x7 x8 x9 x10 x11
  obtain ⟨x0, x1, x2, x3, x4, x5, x6, x7, x8, x9, x10, x11⟩ := (HX.out.below Hb1.out (by have := Hs0.out; omega)).ddl
  rw [Hr.out]
  have HRl := Lib.hid ((rightL_iff l).1 Hr.out)
  go_wp2_with fail
  refine (rplain_any d w1 (RowAt.to HD.out Hb1.out) Hd.out.2.2.2.2.1).mono ?_
  rintro e w2 ⟨rfl, hb⟩
  have Hb2 := Lib.hid (bthen Hb1.out hb)
  clear hb
  try clear c0
  have c0 := (HC.out.below Hb2.out (by have := Hs0.out; omega)).one
  try clear x0 x1 x2 x3 x4 x5 x6 x7 x8 x9 x10 x11
  obtain ⟨x0, x1, x2, x3, x4, x5, x6, x7, x8, x9, x10, x11⟩ := (HX.out.below Hb2.out (by have := Hs0.out; omega)).ddl
  rw [Hpl.out]
  have hd3 : decide (id < 0) = false := by simp; omega
  have HE := Lib.hid (applyE_chg (L := l.map Tb.p) (d := d.p) (id := id) HRl.out Hpl.out (by omega))
  have Hop := Lib.hid (plainD_op Hpl.out)
  clear hid
  have q1 : (d.p.op == 1) = false := by rw [beq_eq_false_iff_ne]; exact E1.out
  obtain ⟨z, hCz, hz1, hz2, hz3⟩ := rfind_z A cp l d.p.tb hl
  have HF := Lib.hid hCz; clear hCz
  go_wp2_with fail
  refine (HF.out w2 (HL.out.to Hb2.out)).mono ?_
  rintro e w3 ⟨rfl, hb⟩
  have Hb3 := Lib.hid (bthen Hb2.out hb)
  clear hb
  try clear c0
  have c0 := (HC.out.below Hb3.out (by have := Hs0.out; omega)).one
  try clear x0 x1 x2 x3 x4 x5 x6 x7 x8 x9 x10 x11
  obtain ⟨x0, x1, x2, x3, x4, x5, x6, x7, x8, x9, x10, x11⟩ := (HX.out.below Hb3.out (by have := Hs0.out; omega)).ddl
  cases hf : findT (l.map Tb.p) d.p.tb with
  | none =>
    have hE : applyE (l.map Tb.p) d.p id = 12 := by rw [HE.out]; unfold chgE; rw [if_neg E1.out, hf]; rfl
    rw [hf] at hz1 hz2
    simp only [Option.isSome_none, Bool.not_false] at hz1 hz2
    obtain ⟨z0, z1, z2⟩ := HRes.out w3 Hb3.out
    have HB := Lib.hid (ApplyEnd.bad hE (by decide) (Hput.out w3 (.slice none 0 0) Hb3.out))
    clear hE hf hz3
    have Hz0 := Lib.hid z0
    go_wp2_with fail
    refine bodyPost_ret (results_c2 rfl _ _ rfl (World.cell?_setCell_same _ _ _ Hz0.out)) rfl ?_
    exact HB.out
  | some k =>
    obtain rfl : z = (k : Int) := hz3 k hf
    rw [hf] at hz1 hz2
    simp only [Option.isSome_some, Bool.not_true] at hz1 hz2
    obtain ⟨tp, htp, htn⟩ := findT_some hf
    obtain ⟨t, ht, rfl⟩ := map_at htp
    have Hf := Lib.hid hf; clear hf
    have Ht := Lib.hid ht; clear ht
    have Htp := Lib.hid htp; clear htp htn
    clear hz3
    have Hm := Lib.hid (List.mem_of_getElem? Ht.out)
    have hkl : k < l.length := (List.getElem?_eq_some_iff.1 Ht.out).1
    obtain ⟨b, off, hAe, hbB, d0, d1, d2, d3, d4⟩ := (HL.out.to Hb3.out).get k t Ht.out
    subst hAe
    have HWr := Lib.hid (fun w' (hw' : Below w3.heap.size w3 w') => rwrong_any _ cp l t d w' ((HL.out.to Hb3.out).to hw') hl (((HL.out.to Hb3.out).to hw').2 t Hm.out) (HW.out t Hm.out).2.1 Hd.out (by have := Hop.out; have := E1.out; omega))
    obtain ⟨E, hEe⟩ : ∃ E, wrongE (l.map Tb.p) t.p d.p = E := ⟨_, rfl⟩
    rw [hEe] at HWr
    have hEa : applyE (l.map Tb.p) d.p id = E := by
      rw [HE.out]
      unfold chgE
      have hb : ((findT (l.map Tb.p) d.p.tb).bind fun k => (l.map Tb.p)[k]?) = some t.p := by rw [Hf.out]; exact Htp.out
      rw [if_neg E1.out, hb]
      exact hEe
    have HEe := Lib.hid hEe; clear hEe
    have HEa := Lib.hid hEa; clear hEa
    have hk0 : (0 : Int) ≤ (k : Int) := by omega
    have hkI : (k : Int) < (l.length : Int) := by omega
    go_wp2_with fail
    have hne : Nonempty (BelowBy w3.heap.size w3) := ⟨⟨w3, Below.refl _ _⟩⟩
    have Kc0 := keepP c0
    have Kx0 := keepP x0
    have Kx1 := keepP x1
    have Kx2 := keepP x2
    have Kx3 := keepP x3
    have Kx4 := keepP x4
    have Kx5 := keepP x5
    have Kx6 := keepP x6
    have Kx7 := keepP x7
    have Kx8 := keepP x8
    have Kx9 := keepP x9
    have Kx10 := keepP x10
    have Kx11 := keepP x11
    have Kd0 := keepP d0
    have Kd1 := keepP d1
    have Kd2 := keepP d2
    have Kd3 := keepP d3
    have Kd4 := keepP d4
    refine wp_region_below w3.heap.size (by kernel_rfl) (by kernel_rfl) ?_
    repeat (
      with_reducible refine wpQuiet_step (fun K hK => ?_)
      go_simp
      refine hK _ ?_
      clear hK K)
    with_reducible refine wpQuiet_step (fun K hK => ?_)
    go_simp
    apply Exists.intro
    refine ⟨fun p => ?_, hK _ ?_⟩
    exact (HWr.out _ p.h).mono fun e w5 ⟨he, hb⟩ => ⟨he, p.step (Nat.le_refl _) hb⟩
    clear hK K
    repeat (
      with_reducible refine wpQuiet_step (fun K hK => ?_)
      go_simp
      refine hK _ ?_
      clear hK K)
    refine wpQuiet_nil ?_
    rintro _ ⟨p, rfl⟩
    have Hb4 := Lib.hid (bthen Hb3.out p.h)
    generalize p.x = w4 at Hb4 ⊢
    clear hne p Kc0 Kx0 Kx1 Kx2 Kx3 Kx4 Kx5 Kx6 Kx7 Kx8 Kx9 Kx10 Kx11 Kd0 Kd1 Kd2 Kd3 Kd4 c0 x0 x1 x2 x3 x4 x5 x6 x7 x8 x9 x10 x11 d0 d1 d2 d3 d4 HWr Hb1 Hb2 Hb3
    by_cases h0 : E = 0
    · subst h0
      have HE0 : Hid (applyE (l.map Tb.p) d.p id = 0) := HEa.out
      have HRt := Lib.hid (HRl.out.2.1 t.p (List.mem_map.2 ⟨t, Hm.out, rfl⟩))
      have Hcast := Lib.hid (casts_of (t := t) HRt.out HEe.out)
      obtain ⟨O, hO⟩ : ∃ O, (if d.p.op = 2 then none else some (tableD t.p d.p)) = O := ⟨_, rfl⟩
      have HOe := Lib.hid hO; clear hO
      have HR0 : Hid (applyR (l.map Tb.p) d.p id = chgAt (l.map Tb.p) k O l.length) := by
        show _ = _
        rw [applyR_chg E1.out Hf.out Htp.out, HOe.out, List.length_map]
      have hM0 : Made w0 w4 w.heap.size (w.heap.size + 1 + 1 + 1) none 0 [] := ⟨HO.out.below Hb4.out (by have := Hs0.out; omega), OwnR.nil _ _ _ _ _, by simp, Hb4.out.mono (by have := Hs0.out; omega)⟩
      have HM0 := Lib.hid hM0; clear hM0
      have Hl0 : Hid (w.heap.size + 1 + 1 + 1 < w0.heap.size) := by show _ < _; have := Hs0.out; omega
      clear Hb4
      go_wp2_with fail
      go_loopw [13] (fun i wr => ∃ (n : Nat) (A1 : Option Addr) (k1 : Nat) (m : List Tb), n ≤ l.length ∧ i = .int .i64 n ∧ m.length ≤ n ∧ Hid (Made w0 wr w.heap.size (w.heap.size + 1 + 1 + 1) A1 k1 m) ∧ Hid (m.map Tb.p = chgAt (l.map Tb.p) k O n)) (fun i _ => l.length - (intOf i).toNat)
      case atStart => exact ⟨0, none, 0, [], by omega, rfl, by simp, HM0.out, by show _ = _; unfold chgAt; cases O <;> simp⟩
      case round =>
        clear HM0
        obtain ⟨n, A1, k1, m, hn, rfl, hmn, hM, hI⟩ := hrel
        have HC1 := Lib.hid (HC.out.below hM.out.below (by omega))
        have HX1 := Lib.hid (HX.out.below hM.out.below (by omega))
        have c0 := HC1.out.one
        have y0 := hM.out.box.cell
        have f0 := hM.out.box.frozen
        have Hwr0 : Hid (w0.heap.size ≤ wr.heap.size) := hM.out.below.size
        by_cases hlt : n < l.length
        · have g1 : decide ((n : Int) < (l.length : Int)) = true := by simp [hlt]
          have hlI : (n : Int) < (l.length : Int) := by omega
          have hnI : (0 : Int) ≤ (n : Int) := by omega
          obtain ⟨u, hu⟩ : ∃ u, l[n]? = some u := ⟨l[n], by simp [hlt]⟩
          have HA := Lib.hid (HL2.out.below (hM.out.below.mono (show w.heap.size ≤ w.heap.size + 1 + 1 + 1 by omega)))
          obtain ⟨b', off', hAe, hbB', d0, d1, d2, d3, d4⟩ := HA.out.get n u hu
          cases hAe
          have Hu := Lib.hid hu; clear hu
          have hx : (l.map Tb.p)[n]? = some u.p := by rw [List.getElem?_map, Hu.out]; rfl
          have Hx := Lib.hid hx; clear hx
          have Hum := Lib.hid (List.mem_of_getElem? Hu.out)
          have HT := Lib.hid (HA.out.2 u Hum.out)
          have Hcap := Lib.hid (HW.out u Hum.out).2.2.1
          by_cases hnk : n = k
          · subst hnk
            have hut : u = t := by have := Hu.out.symm.trans Ht.out; cases this; rfl
            subst hut
            have g2 : ((n : Int) != (n : Int)) = false := by simp
            by_cases e2 : d.p.op = 2
            · have q2 : (d.p.op != 2) = false := by rw [bne_eq_false_iff_eq]; exact e2
              have x0 := HX1.out.ddl.1
              have HN : Hid (m.map Tb.p = chgAt (l.map Tb.p) n O (n + 1)) := by
                show _ = _
                have hO : O = none := by rw [← HOe.out, if_pos e2]
                rw [hI.out, hO]
                exact (chg_none Hx.out).symm
              clear e2 d0 d1 d2 d3 d4
              go_wp2_with fail
              go_roundw
              case rel => exact ⟨n + 1, A1, k1, m, by omega, by go_num, by omega, hM.out, HN.out⟩
              case measure => simp [intOf]; omega
            · have q2 : (d.p.op != 2) = true := by rw [bne_iff_ne]; exact e2
              have HO2 : Hid (O = some (tableD u.p d.p)) := by show _ = _; rw [← HOe.out, if_neg e2]
              have HTb : Hid (∀ X, Below wr.heap.size wr X → Calls Tryz.prog 26 #[TV u, DV d] X fun e w' => TabEnd u d.p X e w') := fun X hX =>
                rtable9_any u d X (RowAt.more (RowAt.below HT.out (hX.mono (show w.heap.size ≤ wr.heap.size by have := Hwr0.out; have := Hl0.out; omega))) (show w.heap.size ≤ X.heap.size by have := hX.size; have := Hwr0.out; have := Hl0.out; omega)) (HW.out u Hum.out).2.1 Hd.out (fun c hc => ((HW.out u Hum.out).2.2.2 c hc).2) (by have := Hop.out; have := E1.out; omega)
                  (by obtain ⟨_, _, h3, _, _, h6, _, kc, k1, _⟩ := HRt.out; have h7 := (h6 kc k1).2; have h8 := ((rightC_iff kc).1 (h6 kc k1).1).1; have h9 : u.p.nx = u.nx := rfl; rw [h9] at h3 h7; omega) Hcast.out
              clear e2
              obtain ⟨x0, x1, x2, x3, x4, x5, x6, x7, x8, x9, x10, x11⟩ := HX1.out.ddl
              go_wp2_with fail
              go_region_law (first
                | (go_simp; go_at_call 26; refine (HTb.out _ (by go_grown)).mono ?_; rintro e w5 ⟨v, rfl, hvp, hvo, hb5⟩; have Hd5 : Hid (Below wr.heap.size wr w5) := bthen (by go_grown) hb5; have Hvp := Lib.hid hvp; have Hvo := Lib.hid (OwnR.raise hvo (base' := w0.heap.size) (fun x hx => Nat.le_trans Hwr0.out (Nat.le_trans (by go_grown) (hvo.lt x hx).1))); have HM5 := Lib.hid (hM.out.to Hd5.out (by omega) Hl0.out); clear hvp hvo hb5 y0 f0; have y0 := HM5.out.box.cell; have f0 := HM5.out.box.frozen; have ky0 := fun o => keep_alloc y0 o)
                | (refine step_append_rows Tryz.underlying22 infoTb rfl (by decide) (by decide) lenT oneT rfl (.tmp 143) (.tmp 151) rfl w0.heap.size _ m (some ⟨w5.heap.size, 0, none⟩) 1 1 [v] (World.ownsRow.alloc HM5.out.row _) (by simp [Act.eval]) (by simp [Act.eval]) rfl (fun h => by cases h) (rowat_new (m := 5) (f := fT) w5 v 51) (by simp; omega) (by have := HM5.out.below.size; simp; omega) ?_; intro v1 w6 ho6 hg6; obtain ⟨A2, k2, rfl, _, _, _⟩ := ho6.form; have hof6 : Off (fun x => (Value.slice A1 m.length k1).ownBlock = some x) w5 w6 := Off.behind (by go_grown) (Off.of_grown hg6); have HM6 := Lib.hid (HM5.out.app (u := v) (by omega) Hl0.out hof6 ho6 (.inr Hvo.out)); have HB6 := Lib.hid (HM5.out.box.off hof6 (fun hx => by have := (HM5.out.row.lt _ hx).1; have := Hl0.out; omega)); clear ky0 y0 f0 ho6 hg6 hof6; have y0 := HB6.out.cell; have f0 := HB6.out.frozen))
              all_goals
                go_wp2_with fail
                have HN : Hid ((m ++ [v]).map Tb.p = chgAt (l.map Tb.p) n O (n + 1)) := by
                  show _ = _
                  rw [List.map_append, hI.out, HO2.out, chg_some Hx.out]
                  simp [Hvp.out]
                have e : (m ++ [v]).length = m.length + 1 := by simp
                have h6 := HM6.out
                rw [e] at h6
                go_roundw
                case rel => exact ⟨n + 1, A2, k2, m ++ [v], by omega, by go_num, by simp; omega, by show Made _ _ _ _ _ _ _; exact h6, HN.out⟩
                case measure => simp [intOf]; omega
          · have g2 : ((n : Int) != (k : Int)) = true := by rw [bne_iff_ne]; omega
            have HN : Hid ((m ++ [u]).map Tb.p = chgAt (l.map Tb.p) k O (n + 1)) := by
              show _ = _
              rw [List.map_append, hI.out, chg_other Hx.out hnk]
              simp
            clear hnk
            go_wp2_with fail
            have ky0 := fun o => keep_alloc y0 o
            go_region_law (first
              | (refine step_append_rows Tryz.underlying22 infoTb rfl (by decide) (by decide) lenT oneT rfl (.tmp 130) (.tmp 136) rfl w0.heap.size _ m (some ⟨wr.heap.size, 0, none⟩) 1 1 [u] (World.ownsRow.alloc hM.out.row _) (by simp [Act.eval]) (by simp [Act.eval]) rfl (fun h => by cases h) (rowat_new (m := 5) (f := fT) wr u 51) (by simp; omega) (by have := hM.out.below.size; simp; omega) ?_; intro v1 w6 ho6 hg6; obtain ⟨A3, k3, rfl, _, _, _⟩ := ho6.form; have hof6 : Off (fun x => (Value.slice A1 m.length k1).ownBlock = some x) wr w6 := Off.behind (by go_grown) (Off.of_grown hg6); have HM6 := Lib.hid (hM.out.app (u := u) (by omega) Hl0.out hof6 ho6 (.inl ⟨HT.out, Hcap.out⟩)); have HB6 := Lib.hid (hM.out.box.off hof6 (fun hx => by have := (hM.out.row.lt _ hx).1; have := Hl0.out; omega)); clear ky0 y0 f0 ho6 hg6 hof6; have y0 := HB6.out.cell; have f0 := HB6.out.frozen))
            all_goals
              go_wp2_with fail
              have e : (m ++ [u]).length = m.length + 1 := by simp
              have h6 := HM6.out
              rw [e] at h6
              go_roundw
              case rel => exact ⟨n + 1, A3, k3, m ++ [u], by omega, by go_num, by simp; omega, by show Made _ _ _ _ _ _ _; exact h6, HN.out⟩
              case measure => simp [intOf]; omega
        · have g1 : decide ((n : Int) < (l.length : Int)) = false := by simp [hlt]
          have hnl : n = l.length := by omega
          have HI : Hid (m.map Tb.p = applyR (l.map Tb.p) d.p id) := by show _ = _; rw [hI.out, HR0.out, hnl]
          clear hI hnl
          have HRx := Lib.hid (HR.out.below hM.out.below (by omega))
          have z0 := HRx.out.cell
          have z1 := HRx.out.frozen
          have Hz0 := Lib.hid z0
          go_wp2_with fail
          refine bodyPost_ret (results_c2 rfl _ _ rfl (World.cell?_setCell_same _ _ _ Hz0.out)) rfl ?_
          refine ⟨A1, k1, m, by rw [HE0.out]; rfl, CatAt.put (hM.out.cat (by omega) (by have := Hs0.out; omega)) HRx.out _, ?_, bput (HbW.out.trans (hM.out.below.mono (by omega))) (by omega) 0 _⟩
          rw [HI.out]
          simp [applyO, HE0.out]
    · have g1 : (E == 0) = false := by simpa using h0
      have g2 : (E != 0) = true := by simpa using h0
      obtain ⟨z0, z1, z2⟩ := HRes.out w4 Hb4.out
      have HB := Lib.hid (ApplyEnd.bad HEa.out h0 (Hput.out w4 (.slice none 0 0) Hb4.out))
      clear h0
      have Hz0 := Lib.hid z0
      go_wp2_with fail
      refine bodyPost_ret (results_c2 rfl _ _ rfl (World.cell?_setCell_same _ _ _ Hz0.out)) rfl ?_
      exact HB.out
end Go.Proofs.YthmjgaekcghonaaGreatDoor
