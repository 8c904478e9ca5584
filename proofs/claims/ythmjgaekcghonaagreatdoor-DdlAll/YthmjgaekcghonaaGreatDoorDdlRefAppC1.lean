/-
  The document's own Apply of layer 9: a new table.
-/
import Derived.Test.YthmjgaekcghonaaGreatDoorPart1
import Derived.Test.YthmjgaekcghonaaGreatDoorPart2
import Derived.Test.YthmjgaekcghonaaGreatDoorPart3
import Derived.Test.YthmjgaekcghonaaGreatDoorPart4
import Derived.Test.YthmjgaekcghonaaGreatDoorPart5
import Derived.Test.YthmjgaekcghonaaGreatDoorPart6
import Derived.Test.YthmjgaekcghonaaGreatDoorPart7
import Derived.Test.YthmjgaekcghonaaGreatDoorPart8
import Derived.Test.YthmjgaekcghonaaGreatDoorPart9
import Derived.Test.YthmjgaekcghonaaGreatDoorPart10
import Derived.Test.YthmjgaekcghonaaGreatDoorPart11
namespace Go.Proofs.YthmjgaekcghonaaGreatDoor
open Go.RowKit

set_option maxRecDepth 100000 in
set_option maxHeartbeats 12800000 in
theorem rapply_create (A : Option Addr) (cp : Nat) (l : List Tb) (d : Db) (id : Int) (w : World) (hA : TabsAt w w.heap.size A l) (hw : ∀ t ∈ l, WfT t) (hl : l.length ≤ 1000000) (hD : DdlAt w w.heap.size d) (hd : WfD d.p) (hr : rightCat l = true) (hp : plainD d.p = true) (hid : 0 ≤ id) (e1 : d.p.op = 1) :
    Calls Tryz.prog 9 #[.agg #[.slice A l.length cp], DV d, .int .i64 id] w fun e w' => ApplyEnd (l.map Tb.p) d.p id w e w' := by
  have E1 := Lib.hid e1; clear e1
  have Hr := Lib.hid hr; clear hr
  have Hpl := Lib.hid hp; clear hp
  obtain ⟨w0, hw0, hb0, hC, hX, hR, hO, hs0⟩ := box_app w (.slice A l.length cp) d
  have Hw0 := Lib.hid hw0; clear hw0
  have HbW := Lib.hid hb0
  have HL2 : Hid (TabsAt w0 w.heap.size A l) := hA.below hb0
  have HD2 : Hid (ColsAt w0 w.heap.size d.A d.p.cols) := RowAt.below hD hb0
  have HL := Lib.hid (hA.to hb0); clear hA
  have HD := Lib.hid (RowAt.to hD hb0); clear hD hb0
  have HC := Lib.hid hC; clear hC
  have HX := Lib.hid hX; clear hX
  have HR := Lib.hid hR; clear hR
  have HO := Lib.hid hO; clear hO
  have Hs0 := Lib.hid hs0; clear hs0
  have HW := Lib.hid hw; clear hw
  have Hd := Lib.hid hd; clear hd
  have Hput : Hid (∀ (X : World) (v : Value), Below w0.heap.size w0 X → Below w.heap.size w (X.setCell ⟨w.heap.size + 1 + 1, 0, none⟩ v)) := fun X v hX => bput (bthen HbW.out hX) (by omega) 0 v
  have HRes : Hid (∀ X, Below w0.heap.size w0 X → X.cell? ⟨w.heap.size + 1 + 1, 0, none⟩ = some (.slice none 0 0) ∧ X.frozen? ⟨w.heap.size + 1 + 1, 0, none⟩ = false ∧ X.cell? ⟨w.heap.size + 1 + 1 + 1, 0, none⟩ = some (.slice none 0 0)) := fun X hX =>
    ⟨(HR.out.below hX (by have := Hs0.out; omega)).cell, (HR.out.below hX (by have := Hs0.out; omega)).frozen, (HO.out.below hX (by have := Hs0.out; omega)).cell⟩
  go_enter Tryz.func9, Tryz.ntmps9
  go_wp2_with fail
  try rw [Hw0.out]
  refine (rrcat_any A cp l w0 (HL.out.to (Below.refl _ _)) HW.out hl).mono ?_
  rintro e w1 ⟨rfl, hb⟩
  have Hb1 := Lib.hid hb
  clear hb
  try clear c0
  have c0 := (HC.out.below Hb1.out (by have := Hs0.out; omega)).one
  try clear x0 x1 x2 x3 x4 x5 x6 x7 x8 x9 x10 x11
  obtain ⟨x0, x1, x2, x3, x4, x5, x6, x7, x8, x9, x10, x11⟩ := (HX.out.below Hb1.out (by have := Hs0.out; omega)).ddl
  rw [Hr.out]
  have HRl := Lib.hid ((rightL_iff l).1 Hr.out)
  go_wp2_with fail
  refine (rplain_any d w1 (RowAt.to HD.out Hb1.out) Hd.out.2.2.2.2.1).mono ?_
  rintro e w2 ⟨rfl, hb⟩
  have Hb2 := Lib.hid (bthen Hb1.out hb)
  clear hb
  try clear c0
  have c0 := (HC.out.below Hb2.out (by have := Hs0.out; omega)).one
  try clear x0 x1 x2 x3 x4 x5 x6 x7 x8 x9 x10 x11
  obtain ⟨x0, x1, x2, x3, x4, x5, x6, x7, x8, x9, x10, x11⟩ := (HX.out.below Hb2.out (by have := Hs0.out; omega)).ddl
  rw [Hpl.out]
  have hd3 : decide (id < 0) = false := by simp; omega
  have HE := Lib.hid (applyE_chg (L := l.map Tb.p) (d := d.p) (id := id) HRl.out Hpl.out (by omega))
  have Hop := Lib.hid (plainD_op Hpl.out)
  clear hid
  have q1 : (d.p.op == 1) = true := by rw [beq_iff_eq]; exact E1.out
  go_wp2_with fail
  refine (rcreate_any A cp l d id w2 (HL.out.to Hb2.out) hl (RowAt.to HD.out Hb2.out) Hd.out).mono ?_
  rintro e w3 ⟨rfl, hb⟩
  have Hb3 := Lib.hid (bthen Hb2.out hb)
  clear hb
  try clear c0
  have c0 := (HC.out.below Hb3.out (by have := Hs0.out; omega)).one
  try clear x0 x1 x2 x3 x4 x5 x6 x7 x8 x9 x10 x11
  obtain ⟨x0, x1, x2, x3, x4, x5, x6, x7, x8, x9, x10, x11⟩ := (HX.out.below Hb3.out (by have := Hs0.out; omega)).ddl
  have hEc : applyE (l.map Tb.p) d.p id = createE (l.map Tb.p) d.p id := by rw [HE.out]; unfold chgE; rw [if_pos E1.out]
  by_cases h0 : createE (l.map Tb.p) d.p id = 0
  · have Hc0 := Lib.hid (createE_0 h0)
    have HE0 := Lib.hid (hEc.trans h0)
    rw [h0]
    clear h0 hEc
    obtain ⟨z0, z1, z2⟩ := HRes.out w3 Hb3.out
    go_wp2_with fail
    have hM0 : Made w0 w3 w.heap.size (w.heap.size + 1 + 1 + 1) none 0 [] := ⟨HO.out.below Hb3.out (by have := Hs0.out; omega), OwnR.nil _ _ _ _ _, by simp, Hb3.out.mono (by have := Hs0.out; omega)⟩
    have HM0 := Lib.hid hM0; clear hM0
    clear z0 z1 z2 c0 x0 x1 x2 x3 x4 x5 x6 x7 x8 x9 x10 x11 Hb1 Hb2 Hb3
    go_loopw [10] (fun i wr => ∃ (n : Nat) (A1 : Option Addr) (k1 : Nat) (m : List Tb), n ≤ l.length + 1 ∧ i = .int .i64 n ∧ m.length ≤ n + 1 ∧ Hid (Made w0 wr w.heap.size (w.heap.size + 1 + 1 + 1) A1 k1 m) ∧ Hid ((n ≤ l.length ∧ InsAt (l.map Tb.p) (madeT d.p id) n (m.map Tb.p)) ∨ (n = l.length + 1 ∧ m.map Tb.p = insT (madeT d.p id) (l.map Tb.p)))) (fun i _ => l.length + 1 - (intOf i).toNat)
    case atStart => exact ⟨0, none, 0, [], by omega, rfl, by simp, HM0.out, .inl ⟨by omega, InsAt.zero _ _⟩⟩
    case round =>
      clear HM0
      obtain ⟨n, A1, k1, m, hn, rfl, hmn, hM, hI⟩ := hrel
      have HC1 := Lib.hid (HC.out.below hM.out.below (by omega))
      have HX1 := Lib.hid (HX.out.below hM.out.below (by omega))
      have c0 := HC1.out.one
      by_cases hle : n ≤ l.length
      · have hdl : decide ((n : Int) ≤ (l.length : Int)) = true := by simp; omega
        have HI : Hid (InsAt (l.map Tb.p) (madeT d.p id) n (m.map Tb.p)) := by
          rcases hI.out with ⟨_, h⟩ | ⟨h, _⟩
          · exact h
          · omega
        clear hI
        go_upto_region 11 with fail
        go_cut [75] (fun v wx => Hid (wx = wr) ∧ ∃ put : Bool, v = .bool put ∧ Hid (Sit l id n put))
        case first =>
          have hne := Hc0.out.2.2.2.1
          have hLr := HL2.out.below (hM.out.below.mono (show w.heap.size ≤ w.heap.size + 1 + 1 + 1 by omega))
          have neq : ∀ t ∈ l, t.id ≠ id := fun t ht => hne t.p (List.mem_map.2 ⟨t, ht, rfl⟩)
          have Hneq := Lib.hid neq; clear neq hne
          by_cases hnl : n = l.length
          · have g1 : ((n : Int) == (l.length : Int)) = true := by rw [hnl]; exact beq_self_eq_true _
            have Hnl := Lib.hid hnl
            have hnoget : ∀ t, l[n]? = some t → id < t.id := fun t h => by have := (List.getElem?_eq_some_iff.1 h).1; omega
            have Hng := Lib.hid hnoget; clear hnoget hnl
            by_cases hn0 : n = 0
            · have g2 : ((n : Int) == 0) = true := by simp [hn0]
              have HS : Hid (Sit l id n true) := .inl ⟨rfl, by rw [hn0]; simp, Hng.out⟩
              clear hn0
              go_wp2_with fail
              go_meet
              exact ⟨rfl, true, rfl, HS.out⟩
            · obtain ⟨j, rfl⟩ : ∃ j, n = j + 1 := ⟨n - 1, by omega⟩
              have g2 : (((j + 1 : Nat) : Int) == 0) = false := by rw [beq_eq_false_iff_ne]; omega
              have hjn := Hnl.out
              have g1' : (((j : Int) + 1) == (l.length : Int)) = true := by rw [beq_iff_eq]; omega
              have g1'' : ((j + 1 : Nat) == l.length) = true := by rw [beq_iff_eq]; omega
              have hjl' : j < l.length := by omega
              clear hjn
              obtain ⟨y, hy⟩ : ∃ y, l[j]? = some y := ⟨l[j]'(by omega), by simp [show j < l.length by omega]⟩
              obtain ⟨b, off, hAe, hbB, d0, d1, d2, d3, d4⟩ := hLr.get j y hy
              rw [hAe] at c0
              have hjl : (j : Int) < (l.length : Int) := by omega
              have hj0 : (0 : Int) ≤ (j : Int) := by omega
              by_cases hlt : y.id < id
              · have g3 : decide (y.id < id) = true := by simp [hlt]
                have HS : Hid (Sit l id (j + 1) true) := .inl ⟨rfl, take_low HRl.out.2.2 (by rw [List.getElem?_map, hy]; rfl) hlt, Hng.out⟩
                clear hAe hy hlt hLr
                go_wp2_with fail
                go_meet
                exact ⟨rfl, true, rfl, HS.out⟩
              · have g3 : decide (y.id < id) = false := by simp; omega
                have HS : Hid (Sit l id (j + 1) false) := .inr ⟨rfl, .inr ⟨y, by omega, by simpa using hy, by have := Hneq.out y (List.mem_of_getElem? hy); omega⟩⟩
                clear hAe hy hlt hLr
                go_wp2_with fail
                go_meet
                exact ⟨rfl, false, rfl, HS.out⟩
          · have g1 : ((n : Int) == (l.length : Int)) = false := by rw [beq_eq_false_iff_ne]; omega
            have hnlt : n < l.length := by omega
            have hnI : (n : Int) < (l.length : Int) := by omega
            obtain ⟨t, ht⟩ : ∃ t, l[n]? = some t := ⟨l[n], by simp [hnlt]⟩
            obtain ⟨b, off, hAe, hbB, d0, d1, d2, d3, d4⟩ := hLr.get n t ht
            rw [hAe] at c0
            have htn := Hneq.out t (List.mem_of_getElem? ht)
            by_cases hgt : id < t.id
            · have g2 : decide (id < t.id) = true := by simp [hgt]
              have Hgt : Hid (∀ t, l[n]? = some t → id < t.id) := fun u hu => by rw [ht] at hu; cases hu; exact hgt
              by_cases hn0 : n = 0
              · have g3 : ((n : Int) == 0) = true := by simp [hn0]
                have HS : Hid (Sit l id n true) := .inl ⟨rfl, by rw [hn0]; simp, Hgt.out⟩
                clear hn0 hAe ht hgt htn hLr hnl
                go_wp2_with fail
                go_meet
                exact ⟨rfl, true, rfl, HS.out⟩
              · obtain ⟨j, rfl⟩ : ∃ j, n = j + 1 := ⟨n - 1, by omega⟩
                have g3 : (((j + 1 : Nat) : Int) == 0) = false := by rw [beq_eq_false_iff_ne]; omega
                obtain ⟨y, hy⟩ : ∃ y, l[j]? = some y := ⟨l[j]'(by omega), by simp [show j < l.length by omega]⟩
                obtain ⟨b', off', hAe', hbB', f0, f1, f2, f3, f4⟩ := hLr.get j y hy
                rw [hAe] at hAe'
                cases hAe'
                have hjl : (j : Int) < (l.length : Int) := by omega
                have hj0 : (0 : Int) ≤ (j : Int) := by omega
                by_cases hlt : y.id < id
                · have g4 : decide (y.id < id) = true := by simp [hlt]
                  have HS : Hid (Sit l id (j + 1) true) := .inl ⟨rfl, take_low HRl.out.2.2 (by rw [List.getElem?_map, hy]; rfl) hlt, Hgt.out⟩
                  clear hAe hy hlt hLr ht hgt htn hnl hn0
                  go_wp2_with fail
                  go_meet
                  exact ⟨rfl, true, rfl, HS.out⟩
                · have g4 : decide (y.id < id) = false := by simp; omega
                  have HS : Hid (Sit l id (j + 1) false) := .inr ⟨rfl, .inr ⟨y, by omega, by simpa using hy, by have := Hneq.out y (List.mem_of_getElem? hy); omega⟩⟩
                  clear hAe hy hlt hLr ht hgt htn hnl hn0
                  go_wp2_with fail
                  go_meet
                  exact ⟨rfl, false, rfl, HS.out⟩
            · have g2 : decide (id < t.id) = false := by simp; omega
              have HS : Hid (Sit l id n false) := .inr ⟨rfl, .inl ⟨t, ht, by omega⟩⟩
              clear hAe ht hgt htn hLr hnl
              go_wp2_with fail
              go_meet
              exact ⟨rfl, false, rfl, HS.out⟩
        case rest =>
          obtain ⟨hwc, put, rfl, HS⟩ := hcut
          have hwc' : wc = wr := hwc
          subst hwc'
          have Hl0 : Hid (w.heap.size + 1 + 1 + 1 < w0.heap.size) := by show _ < _; have := Hs0.out; omega
          go_upto_if 75 with fail
          go_cut [] (fun wx => ∃ (A2 : Option Addr) (k2 : Nat) (m2 : List Tb), Hid (Made w0 wx w.heap.size (w.heap.size + 1 + 1 + 1) A2 k2 m2) ∧ m2.length ≤ n + 2 ∧ Hid (m2.map Tb.p = m.map Tb.p ++ (if put = true then [madeT d.p id] else [])))
          case first =>
            cases put
            · go_wp2_with fail
              go_meet
              exact ⟨A1, k1, m, hM, by omega, by show _ = _; simp⟩
            · have hun : Unlike d.p.cols := fun i j x y hx hy hij => (ncolE_0 (Hc0.out.2.2.2.2.2.2.1 j y hy)).2.1 i x hij hx
              have HMk : Hid (∀ X, Below wc.heap.size wc X → Calls Tryz.prog 23 #[DV d, .int .i64 id] X fun e w' => MadeEnd d.p id X e w') := fun X hX =>
                rmade_any d id X (RowAt.more (RowAt.below (RowAt.below HD2.out (hM.out.below.mono (show w.heap.size ≤ w.heap.size + 1 + 1 + 1 by omega))) (hX.mono (show w.heap.size ≤ wc.heap.size by have := hM.out.below.size; have := Hs0.out; omega))) (show w.heap.size ≤ X.heap.size by have := hX.size; have := hM.out.below.size; have := Hs0.out; omega)) Hd.out.2.2.2.2.1 hun
              clear hun
              obtain ⟨x0, x1, x2, x3, x4, x5, x6, x7, x8, x9, x10, x11⟩ := HX1.out.ddl
              have y0 := hM.out.box.cell
              have f0 := hM.out.box.frozen
              have Hwc0 : Hid (w0.heap.size ≤ wc.heap.size) := hM.out.below.size
              go_wp2_with fail
              go_region_law (first
                | (go_simp; go_at_call 23; refine (HMk.out _ (by go_grown)).mono ?_; rintro e w5 ⟨u, rfl, hup, huo, hb5⟩; have Hd5 : Hid (Below wc.heap.size wc w5) := bthen (by go_grown) hb5; have Hup := Lib.hid hup; have Huo := Lib.hid (OwnR.raise huo (base' := w0.heap.size) (fun x hx => Nat.le_trans Hwc0.out (huo.lt x hx).1)); have HM5 := Lib.hid (hM.out.to Hd5.out (by omega) Hl0.out); clear hup huo hb5 y0 f0; have y0 := HM5.out.box.cell; have f0 := HM5.out.box.frozen; have ky0 := fun o => keep_alloc y0 o)
                | (refine step_append_rows Tryz.underlying22 infoTb rfl (by decide) (by decide) lenT oneT rfl (.tmp 77) (.tmp 81) rfl w0.heap.size _ m (some ⟨w5.heap.size, 0, none⟩) 1 1 [u] (World.ownsRow.alloc HM5.out.row _) (by simp [Act.eval]) (by simp [Act.eval]) rfl (fun h => by cases h) (rowat_new (m := 5) (f := fT) w5 u 51) (by simp; omega) (by have := HM5.out.below.size; simp; omega) ?_; intro v1 w6 ho6 hg6; obtain ⟨A2, k2, rfl, _, _, _⟩ := ho6.form; have hof6 : Off (fun x => (Value.slice A1 m.length k1).ownBlock = some x) w5 w6 := Off.behind (by go_grown) (Off.of_grown hg6); have HM6 := Lib.hid (HM5.out.app (u := u) (by omega) Hl0.out hof6 ho6 (.inr Huo.out)); have HB6 := Lib.hid (HM5.out.box.off hof6 (fun hx => by have := (HM5.out.row.lt _ hx).1; have := Hl0.out; omega)); clear ky0 y0 f0 ho6 hg6 hof6; have y0 := HB6.out.cell; have f0 := HB6.out.frozen))
              all_goals
                go_wp2_with fail
                try go_meet
                refine ⟨A2, k2, m ++ [u], ?_, by simp; omega, by show _ = _; simp [Hup.out]⟩
                have e : (m ++ [u]).length = m.length + 1 := by simp
                have h6 := HM6.out
                rw [e] at h6
                exact h6
          case rest =>
            obtain ⟨A2, k2, m2, HM2, hm2, Hm2⟩ := hcut
            clear HC1 HX1 c0
            have HC2 := Lib.hid (HC.out.below HM2.out.below (by omega))
            have c0 := HC2.out.one
            have y0 := HM2.out.box.cell
            have f0 := HM2.out.box.frozen
            by_cases hlt : n < l.length
            · have g1 : decide ((n : Int) < (l.length : Int)) = true := by simp [hlt]
              have hlI : (n : Int) < (l.length : Int) := by omega
              have hnI : (0 : Int) ≤ (n : Int) := by omega
              obtain ⟨t, ht⟩ : ∃ t, l[n]? = some t := ⟨l[n], by simp [hlt]⟩
              have HA := Lib.hid (HL2.out.below (HM2.out.below.mono (show w.heap.size ≤ w.heap.size + 1 + 1 + 1 by omega)))
              obtain ⟨b, off, hAe, hbB, d0, d1, d2, d3, d4⟩ := HA.out.get n t ht
              rw [hAe] at c0; clear hAe
              have HT := Lib.hid (HA.out.2 t (List.mem_of_getElem? ht))
              have Ht := Lib.hid ht; clear ht
              have Hwc0 : Hid (w0.heap.size ≤ wc.heap.size) := HM2.out.below.size
              have Hcap := Lib.hid (HW.out t (List.mem_of_getElem? Ht.out)).2.2.1
              go_wp2_with fail
              have ky0 := fun o => keep_alloc y0 o
              go_region_law (first
                | (refine step_append_rows Tryz.underlying22 infoTb rfl (by decide) (by decide) lenT oneT rfl (.tmp 90) (.tmp 96) rfl w0.heap.size _ m2 (some ⟨wc.heap.size, 0, none⟩) 1 1 [t] (World.ownsRow.alloc HM2.out.row _) (by simp [Act.eval]) (by simp [Act.eval]) rfl (fun h => by cases h) (rowat_new (m := 5) (f := fT) wc t 51) (by simp; omega) (by have := HM2.out.below.size; simp; omega) ?_; intro v1 w6 ho6 hg6; obtain ⟨A3, k3, rfl, _, _, _⟩ := ho6.form; have hof6 : Off (fun x => (Value.slice A2 m2.length k2).ownBlock = some x) wc w6 := Off.behind (by go_grown) (Off.of_grown hg6); have HM6 := Lib.hid (HM2.out.app (u := t) (by omega) Hl0.out hof6 ho6 (.inl ⟨HT.out, Hcap.out⟩)); have HB6 := Lib.hid (HM2.out.box.off hof6 (fun hx => by have := (HM2.out.row.lt _ hx).1; have := Hl0.out; omega)); clear ky0 y0 f0 ho6 hg6 hof6; have y0 := HB6.out.cell; have f0 := HB6.out.frozen))
              all_goals
                go_wp2_with fail
                have hx : (l.map Tb.p)[n]? = some t.p := by rw [List.getElem?_map, Ht.out]; rfl
                have hin : InsAt (l.map Tb.p) (madeT d.p id) (n + 1) ((m2 ++ [t]).map Tb.p) := by
                  rw [List.map_append, Hm2.out]
                  rcases HS.out with ⟨rfl, h1, h2⟩ | ⟨rfl, ⟨t', ht', hlt'⟩ | ⟨y, h0, hy, hyu⟩⟩
                  · rw [if_pos rfl]
                    exact InsAt.here h1 HI.out hx (h2 t Ht.out)
                  · rw [if_neg (by decide), List.append_nil]
                    rw [Ht.out] at ht'
                    cases ht'
                    exact (HI.out.low HRl.out.2.2 hx hlt').2
                  · rw [if_neg (by decide), List.append_nil]
                    exact HI.out.past (y := y.p) HRl.out.2.2 hx h0 (by rw [List.getElem?_map, hy]; rfl) hyu
                have e : (m2 ++ [t]).length = m2.length + 1 := by simp
                have h6 := HM6.out
                rw [e] at h6
                go_roundw
                case rel => exact ⟨n + 1, A3, k3, m2 ++ [t], by omega, by go_num, by have h9 := hin.len; rw [List.length_map] at h9; exact h9, by show Made _ _ _ _ _ _ _; exact h6, .inl ⟨by omega, hin⟩⟩
                case measure => simp [intOf]; omega
            · have g1 : decide ((n : Int) < (l.length : Int)) = false := by simp [hlt]
              go_wp2_with fail
              have hnl : n = l.length := by omega
              have hI2 : InsAt (l.map Tb.p) (madeT d.p id) (l.map Tb.p).length (m.map Tb.p) := by rw [List.length_map, ← hnl]; exact HI.out
              have hfin : m2.map Tb.p = insT (madeT d.p id) (l.map Tb.p) := by
                rw [Hm2.out]
                rcases HS.out with ⟨rfl, h1, _⟩ | ⟨rfl, ⟨t, ht, _⟩ | ⟨y, h0, hy, hyu⟩⟩
                · rw [if_pos rfl]
                  refine hI2.end_in fun t ht => ?_
                  have := h1 t (by rw [hnl, ← List.length_map (f := Tb.p), List.take_length]; exact ht)
                  exact this
                · have := (List.getElem?_eq_some_iff.1 ht).1
                  omega
                · rw [if_neg (by decide), List.append_nil]
                  exact hI2.end_past (List.mem_map.2 ⟨y, List.mem_of_getElem? hy, rfl⟩) hyu
              exact ⟨⟨n + 1, A2, k2, m2, by omega, by simp, by omega, HM2, .inr ⟨by omega, hfin⟩⟩, by simp [intOf]; omega⟩
      · have hdl : decide ((n : Int) ≤ (l.length : Int)) = false := by simp; omega
        have HI : Hid (m.map Tb.p = insT (madeT d.p id) (l.map Tb.p)) := by
          rcases hI.out with ⟨h, _⟩ | ⟨_, h⟩
          · omega
          · exact h
        clear hI
        have y0 := hM.out.box.cell
        have f0 := hM.out.box.frozen
        have HRx := Lib.hid (HR.out.below hM.out.below (by omega))
        have z0 := HRx.out.cell
        have z1 := HRx.out.frozen
        have Hz0 := Lib.hid z0
        go_wp2_with fail
        refine bodyPost_ret (results_c2 rfl _ _ rfl (World.cell?_setCell_same _ _ _ Hz0.out)) rfl ?_
        refine ⟨A1, k1, m, by rw [HE0.out]; rfl, CatAt.put (hM.out.cat (by omega) (by have := Hs0.out; omega)) HRx.out _, ?_, bput (HbW.out.trans (hM.out.below.mono (by omega))) (by omega) 0 _⟩
        rw [HI.out]
        simp [applyO, HE0.out, applyR, E1.out]
  · obtain ⟨E, hEe⟩ : ∃ E, createE (l.map Tb.p) d.p id = E := ⟨_, rfl⟩
    rw [hEe] at h0 hEc ⊢
    have g1 : (E == 0) = false := by simpa using h0
    have g2 : (E != 0) = true := by simpa using h0
    obtain ⟨z0, z1, z2⟩ := HRes.out w3 Hb3.out
    have HB := Lib.hid (ApplyEnd.bad hEc h0 (Hput.out w3 (.slice none 0 0) Hb3.out))
    clear hEc h0 hEe
    have Hz0 := Lib.hid z0
    go_wp2_with fail
    refine bodyPost_ret (results_c2 rfl _ _ rfl (World.cell?_setCell_same _ _ _ Hz0.out)) rfl ?_
    exact HB.out
end Go.Proofs.YthmjgaekcghonaaGreatDoor
